import Derived.Test.YtkhnjipjbhcgdaaGreatWDoes
/-
  (*treeheadlaw.pair).does, in parts: Holds, Head, Close.
-/
namespace Go.Proofs.YtkhnjipjbhcgdaaGreat
open Go.RowKit Hp

theorem Did.same {B : Nat} {r : PRec} {w w' : World} (h : PrOk w B r) (hb : Below w.heap.size w w') : Did B r w w' := ⟨r, rfl, rfl, rfl, rfl, h.grow hb, Turn.of hb⟩

set_option maxRecDepth 100000 in
set_option maxHeartbeats 8000000 in
theorem does_holds (W w : World) (r : PRec) (h : PrOk w W.heap.size r) (hk : Below W.heap.size W w) (wat N : Int) (b : ByteArray) (p : Option Addr) (cap : Nat) (path : List ByteArray) (hr : Row W p path) (hi : Inc p cap path) (a1 a2 : Int) (al : ByteArray) (hal : al.size ≤ maxLen) (pt : Option Addr) (nt ct : Nat) :
    Calls Tryz.prog 18 #[.pointer (some ⟨r.pb, 0, none⟩), .agg #[.int .i64 3, .int .i64 wat, .int .i64 N, .string b, .slice pt nt ct, .int .i64 a1, .int .i64 a2, .string al, .slice p path.length cap]] w fun e w' => e = .returned (.bool true) ∧ Did W.heap.size r w w' := by
  obtain ⟨pb, F, C, R, sp, K, size, root, seen, closed⟩ := r
  have hO : Box (w.alloc (.cells #[.int .i64 3, .int .i64 wat, .int .i64 N, .string b, .slice pt nt ct, .int .i64 a1, .int .i64 a2, .string al, .slice p path.length cap] 39)) w.heap.size 39 [.int .i64 3, .int .i64 wat, .int .i64 N, .string b, .slice pt nt ct, .int .i64 a1, .int .i64 a2, .string al, .slice p path.length cap] := Box.new w _ _
  have hka : Below w.heap.size w (w.alloc (.cells #[.int .i64 3, .int .i64 wat, .int .i64 N, .string b, .slice pt nt ct, .int .i64 a1, .int .i64 a2, .string al, .slice p path.length cap] 39)) := (Below.refl _ _).alloc (Nat.le_refl _) _
  have HRW : Hid (Row W p path) := hr
  have HI : Hid (Inc p cap path) := hi
  have HP : Hid (PrOk w W.heap.size ⟨pb, F, C, R, sp, K, size, root, seen, closed⟩) := h
  have HKW : Hid (Below W.heap.size W w) := hk
  have hsz : W.heap.size ≤ w.heap.size := hk.size
  clear h hk hr hi
  have o0 := hO.cell 0
  have o8 := hO.cell 8
  go_enter Tryz.func18, Tryz.ntmps18
  go_upto_region 8 with fail
  generalize w.alloc (.cells #[.int .i64 3, .int .i64 wat, .int .i64 N, .string b, .slice pt nt ct, .int .i64 a1, .int .i64 a2, .string al, .slice p path.length cap] 39) = wa at *
  have HRa : Hid (Row wa p path) := HRW.out.grow (HKW.out.trans (hka.mono hsz)) (Nat.le_refl _)
  clear o0
  go_wp2_with fail
  refine (handed_any p cap path wa HRa.out HI.out).mono ?_
  rintro e w1 ⟨q, N1, rfl, hd1, hb1⟩
  have hO1 := hO.grow hb1 hO.lt
  have hk1 : Below w.heap.size w w1 := hka.trans (hb1.mono hka.size)
  have HD1 : Hid (Hnd w1 wa.heap.size p cap q N1 path) := hd1
  have e1 := hd1.len
  have L1 := Inc.len HI.out
  have hsa : w.heap.size < wa.heap.size := hO.lt
  have m0 := hO1.lt
  clear hb1 hd1 hO o8 HRa
  have o5 := hO1.cell 5
  have o6 := hO1.cell 6
  have o7 := hO1.cell 7
  have o8 := hO1.cell 8
  go_upto_region 11 with fail
  have hbA : Below w1.heap.size w1 (w1.alloc (.cells #[.int .i64 a1, .int .i64 a2, .string al, .slice q path.length N1] 37)) := (Below.refl _ _).alloc (Nat.le_refl _) _
  have hA : Box (w1.alloc (.cells #[.int .i64 a1, .int .i64 a2, .string al, .slice q path.length N1] 37)) w1.heap.size 37 [.int .i64 a1, .int .i64 a2, .string al, .slice q path.length N1] := Box.new w1 _ _
  have hO2 := hO1.grow hbA hO1.lt
  have hk2 := hk1.trans (hbA.mono hk1.size)
  have HP2 : Hid (PrOk _ W.heap.size ⟨pb, F, C, R, sp, K, size, root, seen, closed⟩) := HP.out.grow hk2
  have HD2 : Hid (Hnd _ wa.heap.size p cap q N1 path) := Hnd.grow HD1.out hbA
  have HLt : Hid (F < w.heap.size ∧ C < w.heap.size ∧ R < w.heap.size ∧ pb < w.heap.size) := ⟨HP.out.wt.box.lt, HP.out.wt.chan.lt, HP.out.rf.lt, HP.out.box.lt⟩
  clear hbA o5 o6 o7 o8 hO1 hk1 HD1 m0
  generalize w1.alloc (.cells #[.int .i64 a1, .int .i64 a2, .string al, .slice q path.length N1] 37) = w2 at *
  generalize w1.heap.size = A at *
  have p0 := HP2.out.box.cell 0
  have s0 := hA.cell 0
  have s1 := hA.cell 1
  have s2 := hA.cell 2
  have s3 := hA.cell 3
  have HHo : Hid (Calls Tryz.prog 35 #[.pointer (some ⟨F, 0, none⟩), .agg #[.int .i64 a1, .int .i64 a2, .string al, .slice q path.length N1]] w2.drew fun e w' => e = .returned (.int .i64 (holdsP size root seen closed a1 a2 al path)) ∧ Below w2.heap.size w2 w') := by
    have hd := (Below.refl w2.heap.size w2).drew
    have := tholds_any F C sp K size root seen closed a1 a2 al q N1 path w2.drew (Wt.grow HP2.out.wt hd) HP2.out.rs hal ((HD2.out.row HRW.out.len HRW.out.size).drawn)
    exact this.mono fun e w' ⟨x, y⟩ => ⟨x, hd.trans y⟩
  have HRU : Hid (∀ w', Row w' p path → Box w' R 67 [.int .i64 K, .int .i64 size, .string root, .bool seen, .bool closed] → Calls Tryz.prog 36 #[.pointer (some ⟨R, 0, none⟩), .agg #[.int .i64 a1, .int .i64 a2, .string al, .slice p path.length cap]] w' fun e w'' => e = .returned (.int .i64 (holdsP size root seen closed a1 a2 al path)) ∧ Below w'.heap.size w' w'') := fun w' h1 h2 => by
    have := rholds_any R K size root seen closed a1 a2 al p cap path w' h2 HP2.out.rs h1 HI.out.len.1 HI.out.len.2
    rwa [holdsE_eq] at this
  generalize holdsP size root seen closed a1 a2 al path = X at *
  go_region_held3 (fun w' => w'.cell? ⟨pb, 0, none⟩ = some (.pointer (some ⟨F, 0, none⟩)) ∧ w'.cell? ⟨A, 0, none⟩ = some (.int .i64 a1) ∧ w'.cell? ⟨A, 1, none⟩ = some (.int .i64 a2) ∧ w'.cell? ⟨A, 2, none⟩ = some (.string al) ∧ w'.cell? ⟨A, 3, none⟩ = some (.slice q path.length N1)) (go_keep) (first
    | (go_at_call 35; refine Calls.mono HHo.out ?_; rintro e w3 ⟨rfl, hb3⟩; have hA3 := hA.grow hb3 hA.lt; have hbx3 := HP2.out.box.grow hb3 HP2.out.box.lt; have x0 := hbx3.cell 0; have t0 := hA3.cell 0; have t1 := hA3.cell 1; have t2 := hA3.cell 2; have t3 := hA3.cell 3))
  all_goals
    have hO3 := hO2.grow hb3 hO2.lt
    have hk3 := hk2.trans (hb3.mono hk2.size)
    have HD3 : Hid (Hnd w3 wa.heap.size p cap q N1 path) := Hnd.grow HD2.out hb3
    have HBW3 : Hid (Below W.heap.size W w3) := HKW.out.trans (hk3.mono hsz)
    have S1 : Hid _ := still_any p cap path wa.heap.size N1 q w3 (HRW.out.grow HBW3.out (Nat.le_refl _)) HI.out HD3.out (fun b o hne hp => by have := HRW.out.lt b o hne hp; omega)
    clear x0 t0 t1 t2 t3 p0 s0 s1 s2 s3 hA3 hb3 hA HHo HP2 HD2 hbx3 hO2 hk2
    have o8 := hO3.cell 8
    go_wp2_with fail
    refine Calls.mono S1.out ?_
    rintro e w4 ⟨rfl, ht4⟩
    have nq : ∀ g, q = some ⟨g, 0, none⟩ → w.heap.size < g := fun g hg => by have := (HD3.out.lt g hg).1; omega
    have hO4 := hO3.turn ht4 (fun he => by have := nq _ he; omega)
    have hk4 : Below w.heap.size w w4 := hk3.trans (ht4.below (fun k h => by have := nq k h; omega) hk3.size)
    have HP4 : Hid (PrOk w4 W.heap.size ⟨pb, F, C, R, sp, K, size, root, seen, closed⟩) := HP.out.grow hk4
    have HBW4 : Hid (Below W.heap.size W w4) := HKW.out.trans (hk4.mono hsz)
    have RU : Hid _ := HRU.out w4.drew ((HRW.out.grow HBW4.out (Nat.le_refl _)).drawn) (HP4.out.rf.drew)
    have p1 := HP4.out.box.cell 1
    clear S1 o8 HD3 hO3 hk3 HRU ht4 nq
    have o5 := hO4.cell 5
    have o6 := hO4.cell 6
    have o7 := hO4.cell 7
    have o8 := hO4.cell 8
    go_wp2_with fail
    go_region_held3 (fun w' => w'.cell? ⟨pb, 1, none⟩ = some (.pointer (some ⟨R, 0, none⟩)) ∧ w'.cell? ⟨w.heap.size, 5, none⟩ = some (.int .i64 a1) ∧ w'.cell? ⟨w.heap.size, 6, none⟩ = some (.int .i64 a2) ∧ w'.cell? ⟨w.heap.size, 7, none⟩ = some (.string al) ∧ w'.cell? ⟨w.heap.size, 8, none⟩ = some (.slice p path.length cap)) (go_keep) (first
      | (go_at_call 36; refine Calls.mono RU.out ?_; rintro e w5 ⟨rfl, hb5⟩; have hb5' : Below w4.heap.size w4 w5 := (Below.refl _ w4).drew.trans hb5; have hO5 := hO4.grow hb5' hO4.lt; have hbx5 := HP4.out.box.grow hb5' HP4.out.box.lt; have y1 := hbx5.cell 1; have y5 := hO5.cell 5; have y6 := hO5.cell 6; have y7 := hO5.cell 7; have y8 := hO5.cell 8))
    all_goals
      have HDid : Hid (Did W.heap.size ⟨pb, F, C, R, sp, K, size, root, seen, closed⟩ w w5) := Did.same HP.out (hk4.trans (hb5'.mono hk4.size))
      clear hb5 hb5' hbx5 hO5 hO4 RU HP HP4 HKW HRW HBW4 HBW3 p1 o5 o6 o7 o8 y1 y5 y6 y7 y8
      go_wp2_with fail
      go_ret
      exact ⟨rfl, HDid.out⟩

set_option maxRecDepth 100000 in
set_option maxHeartbeats 8000000 in
theorem does_head (W w : World) (r : PRec) (h : PrOk w W.heap.size r) (wat N : Int) (b : ByteArray) (pt : Option Addr) (nt ct : Nat) (a1 a2 : Int) (al : ByteArray) (pa : Option Addr) (na ca : Nat) :
    Calls Tryz.prog 18 #[.pointer (some ⟨r.pb, 0, none⟩), .agg #[.int .i64 4, .int .i64 wat, .int .i64 N, .string b, .slice pt nt ct, .int .i64 a1, .int .i64 a2, .string al, .slice pa na ca]] w fun e w' => e = .returned (.bool true) ∧ Did W.heap.size r w w' := by
  obtain ⟨pb, F, C, R, sp, K, size, root, seen, closed⟩ := r
  have hO : Box (w.alloc (.cells #[.int .i64 4, .int .i64 wat, .int .i64 N, .string b, .slice pt nt ct, .int .i64 a1, .int .i64 a2, .string al, .slice pa na ca] 39)) w.heap.size 39 [.int .i64 4, .int .i64 wat, .int .i64 N, .string b, .slice pt nt ct, .int .i64 a1, .int .i64 a2, .string al, .slice pa na ca] := Box.new w _ _
  have hka : Below w.heap.size w (w.alloc (.cells #[.int .i64 4, .int .i64 wat, .int .i64 N, .string b, .slice pt nt ct, .int .i64 a1, .int .i64 a2, .string al, .slice pa na ca] 39)) := (Below.refl _ _).alloc (Nat.le_refl _) _
  have HP : Hid (PrOk w W.heap.size ⟨pb, F, C, R, sp, K, size, root, seen, closed⟩) := h
  clear h
  have o0 := hO.cell 0
  go_enter Tryz.func18, Tryz.ntmps18
  go_upto_region 15 with fail
  clear o0 hO
  generalize w.alloc (.cells #[.int .i64 4, .int .i64 wat, .int .i64 N, .string b, .slice pt nt ct, .int .i64 a1, .int .i64 a2, .string al, .slice pa na ca] 39) = wa at *
  have HPa : Hid (PrOk wa W.heap.size ⟨pb, F, C, R, sp, K, size, root, seen, closed⟩) := HP.out.grow hka
  have HH : Hid _ := thead_any F C sp K size root seen closed wa HPa.out.wt
  have HT : Hid (∀ w', Box w' R 67 [.int .i64 K, .int .i64 size, .string root, .bool seen, .bool closed] → _) := fun w' h => rtold_any R K size root seen closed w' h
  generalize (if seen = true then (size : Int) else 0) = hs at *
  generalize (if seen = true then root else ⟨#[]⟩) = hrt at *
  generalize (if seen = true then (0 : Int) else 7) = he at *
  have p0 := HPa.out.box.cell 0
  go_wp2_with fail
  refine Calls.mono HH.out ?_
  rintro e w1 ⟨rfl, hb1⟩
  go_upto_region 16 with fail
  have hbA : Below w1.heap.size w1 (w1.alloc (.cells #[.int .i64 hs, .string hrt] 59)) := (Below.refl _ _).alloc (Nat.le_refl _) _
  have hA : Box (w1.alloc (.cells #[.int .i64 hs, .string hrt] 59)) w1.heap.size 59 [.int .i64 hs, .string hrt] := Box.new w1 _ _
  have hk2 : Below w.heap.size w (w1.alloc (.cells #[.int .i64 hs, .string hrt] 59)) := (hka.trans (hb1.mono hka.size)).trans (hbA.mono (hka.trans (hb1.mono hka.size)).size)
  clear hbA hb1 HH p0 HPa hka
  generalize w1.alloc (.cells #[.int .i64 hs, .string hrt] 59) = w2 at *
  generalize w1.heap.size = A at *
  have HP2 : Hid (PrOk w2 W.heap.size ⟨pb, F, C, R, sp, K, size, root, seen, closed⟩) := HP.out.grow hk2
  have p1 := HP2.out.box.cell 1
  go_wp2_with fail
  refine (HT.out _ HP2.out.rf).mono ?_
  rintro e w3 ⟨rfl, hb3⟩
  go_upto_region 17 with fail
  have hbC : Below w3.heap.size w3 (w3.alloc (.cells #[.int .i64 hs, .string hrt] 59)) := (Below.refl _ _).alloc (Nat.le_refl _) _
  have hC : Box (w3.alloc (.cells #[.int .i64 hs, .string hrt] 59)) w3.heap.size 59 [.int .i64 hs, .string hrt] := Box.new w3 _ _
  have hA4 := (hA.grow hb3 hA.lt).grow hbC (hA.grow hb3 hA.lt).lt
  have hk3 := hk2.trans (hb3.mono hk2.size)
  have hk4 := hk3.trans (hbC.mono hk3.size)
  have HDid : Hid (Did W.heap.size ⟨pb, F, C, R, sp, K, size, root, seen, closed⟩ w _) := Did.same HP.out hk4
  clear hbC hb3 HT p1 HP2 hA hk2 hk3 hk4 HP
  generalize w3.alloc (.cells #[.int .i64 hs, .string hrt] 59) = w4 at *
  generalize w3.heap.size = A2 at *
  have s0 := hA4.cell 0
  have s1 := hA4.cell 1
  have t0 := hC.cell 0
  have t1 := hC.cell 1
  go_wp2_with fail
  go_ret
  exact ⟨rfl, HDid.out⟩

set_option maxRecDepth 100000 in
set_option maxHeartbeats 8000000 in
theorem does_close (W w : World) (r : PRec) (h : PrOk w W.heap.size r) (wat N : Int) (b : ByteArray) (pt : Option Addr) (nt ct : Nat) (a1 a2 : Int) (al : ByteArray) (pa : Option Addr) (na ca : Nat) :
    Calls Tryz.prog 18 #[.pointer (some ⟨r.pb, 0, none⟩), .agg #[.int .i64 5, .int .i64 wat, .int .i64 N, .string b, .slice pt nt ct, .int .i64 a1, .int .i64 a2, .string al, .slice pa na ca]] w fun e w' => e = .returned (.bool true) ∧ Did W.heap.size r w w' := by
  obtain ⟨pb, F, C, R, sp, K, size, root, seen, closed⟩ := r
  have hO : Box (w.alloc (.cells #[.int .i64 5, .int .i64 wat, .int .i64 N, .string b, .slice pt nt ct, .int .i64 a1, .int .i64 a2, .string al, .slice pa na ca] 39)) w.heap.size 39 [.int .i64 5, .int .i64 wat, .int .i64 N, .string b, .slice pt nt ct, .int .i64 a1, .int .i64 a2, .string al, .slice pa na ca] := Box.new w _ _
  have hka : Below w.heap.size w (w.alloc (.cells #[.int .i64 5, .int .i64 wat, .int .i64 N, .string b, .slice pt nt ct, .int .i64 a1, .int .i64 a2, .string al, .slice pa na ca] 39)) := (Below.refl _ _).alloc (Nat.le_refl _) _
  have HP : Hid (PrOk w W.heap.size ⟨pb, F, C, R, sp, K, size, root, seen, closed⟩) := h
  clear h
  have o0 := hO.cell 0
  go_enter Tryz.func18, Tryz.ntmps18
  go_upto_region 18 with fail
  clear o0 hO
  generalize w.alloc (.cells #[.int .i64 5, .int .i64 wat, .int .i64 N, .string b, .slice pt nt ct, .int .i64 a1, .int .i64 a2, .string al, .slice pa na ca] 39) = wa at *
  have HPa : Hid (PrOk wa W.heap.size ⟨pb, F, C, R, sp, K, size, root, seen, closed⟩) := HP.out.grow hka
  have HC : Hid _ := tclose_any F C sp K size root seen closed wa HPa.out.wt (kne HPa.out.wt.box HPa.out.wt.chan rfl) (HPa.out.wt.notHead HPa.out.wt.chan rfl)
  have p0 := HPa.out.box.cell 0
  go_wp2_with fail
  refine Calls.mono HC.out ?_
  rintro e w1 ⟨rfl, hw1, ht1⟩
  have hbx1 := HPa.out.box.turn ht1 (fun he => kne HPa.out.box HPa.out.wt.chan rfl he)
  have hrf1 := HPa.out.rf.turn ht1 (fun he => kne HPa.out.rf HPa.out.wt.chan rfl he)
  have k1 : Turn (PRec.mine ⟨pb, F, C, R, sp, K, size, root, seen, closed⟩) w w1 := (Turn.of hka).trans ht1 (fun _ _ h => Or.inr (Or.inl h))
  have T2 : Turn (fun k => k = R) w1 (w1.setCell ⟨R, 4, none⟩ (.bool true)) := (Turn.refl (fun k => k = R) w1).setCell (fun _ => rfl) _
  have HDid : Hid (Did W.heap.size ⟨pb, F, C, R, sp, K, size, root, seen, closed⟩ w (w1.setCell ⟨R, 4, none⟩ (.bool true))) :=
    ⟨⟨pb, F, C, R, sp, K, size, root, seen, true⟩, rfl, rfl, rfl, rfl, ⟨HP.out.le, hbx1.turn T2 (kne HP.out.box HP.out.rf rfl), hw1.turn T2 (kne HP.out.wt.box HP.out.rf rfl) (kne HP.out.wt.chan HP.out.rf rfl) (hw1.notHead hrf1 rfl), hrf1.set 4 (.bool true), HP.out.rs⟩, k1.trans T2 (fun k _ h => Or.inr (Or.inr h))⟩
  have p1 := hbx1.cell 1
  have r4 := hrf1.cell 4
  have f4 := hrf1.frozen 4
  clear p0 HC HPa hka hw1 ht1 k1 T2 hbx1 hrf1 HP
  go_wp2_with fail
  go_ret
  exact ⟨rfl, HDid.out⟩
end Go.Proofs.YtkhnjipjbhcgdaaGreat
