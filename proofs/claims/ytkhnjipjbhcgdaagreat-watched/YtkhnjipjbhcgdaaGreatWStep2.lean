import Derived.Test.YtkhnjipjbhcgdaaGreatWStep
/-
  THE WALK of (*treeheadlaw.World).step, kind by kind.
-/
namespace Go.Proofs.YtkhnjipjbhcgdaaGreat
open Go.RowKit Hp

set_option maxRecDepth 100000 in
set_option maxHeartbeats 4000000 in
theorem step_watch (W w : World) (W0 NN MM : Nat) (h : Sx W w W0 NN MM) (hN : NN ≤ 1200000000010) (wat N : Int) (b : ByteArray) (pt : Option Addr) (ct : Nat) (ts : List ByteArray) (a1 a2 : Int) (al : ByteArray) (pa : Option Addr) (ca : Nat) (qs : List ByteArray) :
    Calls Tryz.prog 7 #[.pointer (some ⟨W0, 0, none⟩), .agg #[.int .i64 1, .int .i64 wat, .int .i64 N, .string b, .slice pt ts.length ct, .int .i64 a1, .int .i64 a2, .string al, .slice pa qs.length ca]] w fun e w' => e = .returned (.bool true) ∧ Sx W w' W0 (NN + 1) (MM + 1) := by
  have hO : Box (w.alloc (.cells #[.int .i64 1, .int .i64 wat, .int .i64 N, .string b, .slice pt ts.length ct, .int .i64 a1, .int .i64 a2, .string al, .slice pa qs.length ca] 39)) w.heap.size 39 [.int .i64 1, .int .i64 wat, .int .i64 N, .string b, .slice pt ts.length ct, .int .i64 a1, .int .i64 a2, .string al, .slice pa qs.length ca] := Box.new w _ _
  have hka : Below w.heap.size w (w.alloc (.cells #[.int .i64 1, .int .i64 wat, .int .i64 N, .string b, .slice pt ts.length ct, .int .i64 a1, .int .i64 a2, .string al, .slice pa qs.length ca] 39)) := (Below.refl _ _).alloc (Nat.le_refl _) _
  have HW : Hid _ := watch_any W _ W0 NN MM N (h.grow hka) hN
  have o0 := hO.cell 0
  have o2 := hO.cell 2
  clear h hka
  go_enter Tryz.func7, Tryz.ntmps7
  go_upto_region 3 with fail
  generalize w.alloc (.cells #[.int .i64 1, .int .i64 wat, .int .i64 N, .string b, .slice pt ts.length ct, .int .i64 a1, .int .i64 a2, .string al, .slice pa qs.length ca] 39) = wa at *
  go_wp2_with fail
  refine Calls.mono HW.out ?_
  rintro e w1 ⟨rfl, hs⟩
  have HS : Hid (Sx W w1 W0 (NN + 1) (MM + 1)) := hs
  clear hs
  go_wp2_with fail
  go_ret
  exact ⟨rfl, HS.out⟩

set_option maxRecDepth 100000 in
set_option maxHeartbeats 4000000 in
theorem step_incl (W w : World) (W0 NN MM : Nat) (h : Sx W w W0 NN MM) (hM : MM ≤ 1200000000000) (wat N : Int) (b : ByteArray) (pt : Option Addr) (ct : Nat) (ts : List ByteArray) (a1 a2 : Int) (al : ByteArray) (pa : Option Addr) (ca : Nat) (qs : List ByteArray) (hr : Row W pt ts) (hi : Inc pt ct ts) :
    Calls Tryz.prog 7 #[.pointer (some ⟨W0, 0, none⟩), .agg #[.int .i64 6, .int .i64 wat, .int .i64 N, .string b, .slice pt ts.length ct, .int .i64 a1, .int .i64 a2, .string al, .slice pa qs.length ca]] w fun e w' => e = .returned (.bool true) ∧ Sx W w' W0 (NN + 1) (MM + 1) := by
  have hO : Box (w.alloc (.cells #[.int .i64 6, .int .i64 wat, .int .i64 N, .string b, .slice pt ts.length ct, .int .i64 a1, .int .i64 a2, .string al, .slice pa qs.length ca] 39)) w.heap.size 39 [.int .i64 6, .int .i64 wat, .int .i64 N, .string b, .slice pt ts.length ct, .int .i64 a1, .int .i64 a2, .string al, .slice pa qs.length ca] := Box.new w _ _
  have hka : Below w.heap.size w (w.alloc (.cells #[.int .i64 6, .int .i64 wat, .int .i64 N, .string b, .slice pt ts.length ct, .int .i64 a1, .int .i64 a2, .string al, .slice pa qs.length ca] 39)) := (Below.refl _ _).alloc (Nat.le_refl _) _
  have HSa : Hid (Sx W _ W0 NN MM) := h.grow hka
  have HI : Hid (∀ w', Below W.heap.size W w' → Calls Tryz.prog 14 #[.slice pt ts.length ct, .int .i64 N] w' fun e w'' => ∃ v', e = .returned (.tuple #[v', .bool true]) ∧ Own w'' w'.heap.size v' (inclP ts N) ∧ Below w'.heap.size w' w'') := fun w' hb => included_row _ ts N w' (hi.isRow (hr.grow hb (Nat.le_refl _)))
  have o0 := hO.cell 0
  have o2 := hO.cell 2
  have o4 := hO.cell 4
  clear h hka hr hi
  go_enter Tryz.func7, Tryz.ntmps7
  go_upto_region 5 with fail
  generalize w.alloc (.cells #[.int .i64 6, .int .i64 wat, .int .i64 N, .string b, .slice pt ts.length ct, .int .i64 a1, .int .i64 a2, .string al, .slice pa qs.length ca] 39) = wa at *
  go_wp2_with fail
  refine (HI.out _ (Sx.below HSa.out)).mono ?_
  rintro e w1 ⟨v, rfl, ho, hb⟩
  have HT : Hid _ := takes_all W wa w1 W0 NN MM HSa.out hb v _ ho (inclP_short ts N) hM
  obtain ⟨p, cap, rfl⟩ := own_slice ho
  clear ho hb HI HSa hO o0 o2 o4
  go_wp2_with fail
  refine Calls.mono HT.out ?_
  rintro e w2 ⟨rfl, hs⟩
  have HS : Hid (Sx W w2 W0 (NN + 1) (MM + 1)) := hs
  clear hs
  go_wp2_with fail
  go_ret
  exact ⟨rfl, HS.out⟩

set_option maxRecDepth 100000 in
set_option maxHeartbeats 4000000 in
theorem step_ext (W w : World) (W0 NN MM : Nat) (h : Sx W w W0 NN MM) (hM : MM ≤ 1200000000000) (wat N : Int) (b : ByteArray) (pt : Option Addr) (ct : Nat) (ts : List ByteArray) (a1 a2 : Int) (al : ByteArray) (pa : Option Addr) (ca : Nat) (qs : List ByteArray) (hr : Row W pt ts) (hi : Inc pt ct ts) :
    Calls Tryz.prog 7 #[.pointer (some ⟨W0, 0, none⟩), .agg #[.int .i64 7, .int .i64 wat, .int .i64 N, .string b, .slice pt ts.length ct, .int .i64 a1, .int .i64 a2, .string al, .slice pa qs.length ca]] w fun e w' => e = .returned (.bool true) ∧ Sx W w' W0 (NN + 1) (MM + 1) := by
  have hO : Box (w.alloc (.cells #[.int .i64 7, .int .i64 wat, .int .i64 N, .string b, .slice pt ts.length ct, .int .i64 a1, .int .i64 a2, .string al, .slice pa qs.length ca] 39)) w.heap.size 39 [.int .i64 7, .int .i64 wat, .int .i64 N, .string b, .slice pt ts.length ct, .int .i64 a1, .int .i64 a2, .string al, .slice pa qs.length ca] := Box.new w _ _
  have hka : Below w.heap.size w (w.alloc (.cells #[.int .i64 7, .int .i64 wat, .int .i64 N, .string b, .slice pt ts.length ct, .int .i64 a1, .int .i64 a2, .string al, .slice pa qs.length ca] 39)) := (Below.refl _ _).alloc (Nat.le_refl _) _
  have HSa : Hid (Sx W _ W0 NN MM) := h.grow hka
  have HI : Hid (∀ w', Below W.heap.size W w' → Calls Tryz.prog 16 #[.slice pt ts.length ct, .int .i64 N] w' fun e w'' => ∃ v', e = .returned (.tuple #[v', .bool true]) ∧ Own w'' w'.heap.size v' (extP ts N) ∧ Below w'.heap.size w' w'') := fun w' hb => extended_row _ ts N w' (hi.isRow (hr.grow hb (Nat.le_refl _)))
  have o0 := hO.cell 0
  have o2 := hO.cell 2
  have o4 := hO.cell 4
  clear h hka hr hi
  go_enter Tryz.func7, Tryz.ntmps7
  go_upto_region 9 with fail
  generalize w.alloc (.cells #[.int .i64 7, .int .i64 wat, .int .i64 N, .string b, .slice pt ts.length ct, .int .i64 a1, .int .i64 a2, .string al, .slice pa qs.length ca] 39) = wa at *
  go_wp2_with fail
  refine (HI.out _ (Sx.below HSa.out)).mono ?_
  rintro e w1 ⟨v, rfl, ho, hb⟩
  have HT : Hid _ := takes_all W wa w1 W0 NN MM HSa.out hb v _ ho (extP_short ts N) hM
  obtain ⟨p, cap, rfl⟩ := own_slice ho
  clear ho hb HI HSa hO o0 o2 o4
  go_wp2_with fail
  refine Calls.mono HT.out ?_
  rintro e w2 ⟨rfl, hs⟩
  have HS : Hid (Sx W w2 W0 (NN + 1) (MM + 1)) := hs
  clear hs
  go_wp2_with fail
  go_ret
  exact ⟨rfl, HS.out⟩

set_option maxRecDepth 100000 in
set_option maxHeartbeats 4000000 in
theorem step_low (W w : World) (W0 NN MM : Nat) (h : Sx W w W0 NN MM) (kind : Int) (h1 : (kind == 1) = false) (h6 : (kind == 6) = false) (h7 : (kind == 7) = false) (hk : kind < 2) (wat N : Int) (b : ByteArray) (pt : Option Addr) (ct : Nat) (ts : List ByteArray) (a1 a2 : Int) (al : ByteArray) (pa : Option Addr) (ca : Nat) (qs : List ByteArray) :
    Calls Tryz.prog 7 #[.pointer (some ⟨W0, 0, none⟩), .agg #[.int .i64 kind, .int .i64 wat, .int .i64 N, .string b, .slice pt ts.length ct, .int .i64 a1, .int .i64 a2, .string al, .slice pa qs.length ca]] w fun e w' => e = .returned (.bool true) ∧ Sx W w' W0 (NN + 1) (MM + 1) := by
  have hO : Box (w.alloc (.cells #[.int .i64 kind, .int .i64 wat, .int .i64 N, .string b, .slice pt ts.length ct, .int .i64 a1, .int .i64 a2, .string al, .slice pa qs.length ca] 39)) w.heap.size 39 [.int .i64 kind, .int .i64 wat, .int .i64 N, .string b, .slice pt ts.length ct, .int .i64 a1, .int .i64 a2, .string al, .slice pa qs.length ca] := Box.new w _ _
  have hka : Below w.heap.size w (w.alloc (.cells #[.int .i64 kind, .int .i64 wat, .int .i64 N, .string b, .slice pt ts.length ct, .int .i64 a1, .int .i64 a2, .string al, .slice pa qs.length ca] 39)) := (Below.refl _ _).alloc (Nat.le_refl _) _
  have HSa : Hid (Sx W _ W0 NN MM) := h.grow hka
  have o0 := hO.cell 0
  clear h hka
  go_enter Tryz.func7, Tryz.ntmps7
  go_wp2_with fail
  go_ret
  exact ⟨rfl, Sx.mono HSa.out (by omega) (by omega)⟩

set_option maxRecDepth 100000 in
set_option maxHeartbeats 4000000 in
theorem step_high (W w : World) (W0 NN MM : Nat) (h : Sx W w W0 NN MM) (kind : Int) (h1 : (kind == 1) = false) (h6 : (kind == 6) = false) (h7 : (kind == 7) = false) (hk : 5 < kind) (wat N : Int) (b : ByteArray) (pt : Option Addr) (ct : Nat) (ts : List ByteArray) (a1 a2 : Int) (al : ByteArray) (pa : Option Addr) (ca : Nat) (qs : List ByteArray) :
    Calls Tryz.prog 7 #[.pointer (some ⟨W0, 0, none⟩), .agg #[.int .i64 kind, .int .i64 wat, .int .i64 N, .string b, .slice pt ts.length ct, .int .i64 a1, .int .i64 a2, .string al, .slice pa qs.length ca]] w fun e w' => e = .returned (.bool true) ∧ Sx W w' W0 (NN + 1) (MM + 1) := by
  have hO : Box (w.alloc (.cells #[.int .i64 kind, .int .i64 wat, .int .i64 N, .string b, .slice pt ts.length ct, .int .i64 a1, .int .i64 a2, .string al, .slice pa qs.length ca] 39)) w.heap.size 39 [.int .i64 kind, .int .i64 wat, .int .i64 N, .string b, .slice pt ts.length ct, .int .i64 a1, .int .i64 a2, .string al, .slice pa qs.length ca] := Box.new w _ _
  have hka : Below w.heap.size w (w.alloc (.cells #[.int .i64 kind, .int .i64 wat, .int .i64 N, .string b, .slice pt ts.length ct, .int .i64 a1, .int .i64 a2, .string al, .slice pa qs.length ca] 39)) := (Below.refl _ _).alloc (Nat.le_refl _) _
  have HSa : Hid (Sx W _ W0 NN MM) := h.grow hka
  have o0 := hO.cell 0
  clear h hka
  go_enter Tryz.func7, Tryz.ntmps7
  go_wp2_with fail
  go_ret
  exact ⟨rfl, Sx.mono HSa.out (by omega) (by omega)⟩

set_option maxRecDepth 100000 in
set_option maxHeartbeats 16000000 in
theorem step_does (W w : World) (W0 NN MM : Nat) (h : Sx W w W0 NN MM) (hN : NN ≤ 1200000000010) (kind : Int) (h1 : (kind == 1) = false) (h6 : (kind == 6) = false) (h7 : (kind == 7) = false) (hk2 : 2 ≤ kind) (hk5 : kind ≤ 5) (wat N : Int) (b : ByteArray) (pt : Option Addr) (ct : Nat) (ts : List ByteArray) (a1 a2 : Int) (al : ByteArray) (pa : Option Addr) (ca : Nat) (qs : List ByteArray) (ho : OpOk W ⟨kind, wat, N, b, pt, ct, ts, a1, a2, al, pa, ca, qs⟩) :
    Calls Tryz.prog 7 #[.pointer (some ⟨W0, 0, none⟩), .agg #[.int .i64 kind, .int .i64 wat, .int .i64 N, .string b, .slice pt ts.length ct, .int .i64 a1, .int .i64 a2, .string al, .slice pa qs.length ca]] w fun e w' => e = .returned (.bool true) ∧ Sx W w' W0 (NN + 1) (MM + 1) := by
  have hO : Box (w.alloc (.cells #[.int .i64 kind, .int .i64 wat, .int .i64 N, .string b, .slice pt ts.length ct, .int .i64 a1, .int .i64 a2, .string al, .slice pa qs.length ca] 39)) w.heap.size 39 [.int .i64 kind, .int .i64 wat, .int .i64 N, .string b, .slice pt ts.length ct, .int .i64 a1, .int .i64 a2, .string al, .slice pa qs.length ca] := Box.new w _ _
  have hka : Below w.heap.size w (w.alloc (.cells #[.int .i64 kind, .int .i64 wat, .int .i64 N, .string b, .slice pt ts.length ct, .int .i64 a1, .int .i64 a2, .string al, .slice pa qs.length ca] 39)) := (Below.refl _ _).alloc (Nat.le_refl _) _
  have hkd : kind = 2 ∨ kind = 3 ∨ kind = 4 ∨ kind = 5 := by omega
  obtain ⟨n, m, P, v1, v2, v3, L1, L3, n1, n2, m2, hS, hB⟩ := h
  have hSa := hS.grow hka
  have hBa := hB.trans (hka.mono hB.size)
  obtain ⟨i, hi⟩ : ∃ i : Nat, pickOf wat n = (i : Int) := ⟨(pickOf wat n).toNat, by have := pickOf_nonneg wat n (by omega); omega⟩
  have hin : i < n := by have := pickOf_lt wat n (by omega); omega
  have HPk : Hid (∀ w, Calls Tryz.prog 17 #[.int .i64 wat, .int .i64 n] w fun e w' => e = .returned (.int .i64 i) ∧ w' = w) := fun w => by
    have := pickl_any wat n w ho.wat (by omega) (by omega)
    rwa [hi] at this
  obtain ⟨g, k1, hv1, hnc, hg⟩ := owns_get hSa.ps i hin
  subst hv1
  obtain ⟨pb, hpb⟩ : ∃ pb, (P i).pb = pb := ⟨_, rfl⟩
  have hgi : ptrOf (P i) = .pointer (some ⟨pb, 0, none⟩) := by unfold ptrOf; rw [hpb]
  rw [hgi] at hg
  have HDo : Hid (∀ w', Below (w.alloc (.cells #[.int .i64 kind, .int .i64 wat, .int .i64 N, .string b, .slice pt ts.length ct, .int .i64 a1, .int .i64 a2, .string al, .slice pa qs.length ca] 39)).heap.size (w.alloc (.cells #[.int .i64 kind, .int .i64 wat, .int .i64 N, .string b, .slice pt ts.length ct, .int .i64 a1, .int .i64 a2, .string al, .slice pa qs.length ca] 39)) w' → Calls Tryz.prog 18 #[.pointer (some ⟨pb, 0, none⟩), .agg #[.int .i64 kind, .int .i64 wat, .int .i64 N, .string b, .slice pt ts.length ct, .int .i64 a1, .int .i64 a2, .string al, .slice pa qs.length ca]] w' fun e w'' => e = .returned (.bool true) ∧ Sx W w'' W0 (NN + 1) (MM + 1) ∧ Box w'' W0 27 [.slice (some ⟨g, 0, none⟩) n k1, v2, v3] ∧ w''.cell? ⟨g, i, none⟩ = some (.pointer (some ⟨pb, 0, none⟩)) ∧ Box w'' w.heap.size 39 [.int .i64 kind, .int .i64 wat, .int .i64 N, .string b, .slice pt ts.length ct, .int .i64 a1, .int .i64 a2, .string al, .slice pa qs.length ca]) := fun w' hb => by
    have hS' := hSa.grow hb
    have hB' := hBa.trans (hb.mono hBa.size)
    have hO' := hO.grow hb hO.lt
    have := does_any W w' (P i) (hS'.pr i hin) hB' ⟨kind, wat, N, b, pt, ct, ts, a1, a2, al, pa, ca, qs⟩ ho hkd
    rw [hpb] at this
    refine this.mono ?_
    rintro e w'' ⟨he, r', q1, q2, q3, q4, q5, q6⟩
    have hS'' := hS'.pair i hin r' q6 q1 q2 q3 q4 q5
    refine ⟨he, ⟨n, m, _, _, v2, v3, L1, L3, n1, by omega, by omega, hS'', hB'.trans (q6.below (fun k hk => (hS'.pr i hin).ge k hk) hB'.size)⟩, hS''.box, ?_, hO'.turn q6 ((hS'.pr i hin).other hO' rfl rfl rfl)⟩
    obtain ⟨g', k', e1, _, e2⟩ := owns_get hS''.ps i hin
    simp only [Value.slice.injEq, Option.some.injEq, Addr.mk.injEq, and_true, true_and] at e1
    obtain ⟨rfl, rfl⟩ := e1
    rw [e2, updF_same]
    unfold ptrOf
    rw [q1, hpb]
  have c0 := hSa.box.cell 0
  have hgl := World.ownsRow.lt hSa.ps g rfl
  have hO' := hO
  clear hka hB hS hkd ho hpb hgi
  have o0 := hO.cell 0
  go_enter Tryz.func7, Tryz.ntmps7
  go_upto_region 14 with fail
  generalize w.alloc (.cells #[.int .i64 kind, .int .i64 wat, .int .i64 N, .string b, .slice pt ts.length ct, .int .i64 a1, .int .i64 a2, .string al, .slice pa qs.length ca] 39) = wa at *
  have o1 := hO.cell 1
  have o2 := hO.cell 2
  have o3 := hO.cell 3
  have o4 := hO.cell 4
  have o5 := hO.cell 5
  have o6 := hO.cell 6
  have o7 := hO.cell 7
  have o8 := hO.cell 8
  have hii : (i : Int) < (n : Int) := by omega
  clear hSa hBa hO hO' hgl hi
  go_region_held3 (fun w' => w'.cell? ⟨W0, 0, none⟩ = some (.slice (some ⟨g, 0, none⟩) n k1) ∧ w'.cell? ⟨g, i, none⟩ = some (.pointer (some ⟨pb, 0, none⟩)) ∧ w'.cell? ⟨w.heap.size, 0, none⟩ = some (.int .i64 kind) ∧ w'.cell? ⟨w.heap.size, 1, none⟩ = some (.int .i64 wat) ∧ w'.cell? ⟨w.heap.size, 2, none⟩ = some (.int .i64 N) ∧ w'.cell? ⟨w.heap.size, 3, none⟩ = some (.string b) ∧ w'.cell? ⟨w.heap.size, 4, none⟩ = some (.slice pt ts.length ct) ∧ w'.cell? ⟨w.heap.size, 5, none⟩ = some (.int .i64 a1) ∧ w'.cell? ⟨w.heap.size, 6, none⟩ = some (.int .i64 a2) ∧ w'.cell? ⟨w.heap.size, 7, none⟩ = some (.string al) ∧ w'.cell? ⟨w.heap.size, 8, none⟩ = some (.slice pa qs.length ca)) (go_keep) (first
    | (go_at_call 17; refine (HPk.out _).mono ?_; rintro e w2 ⟨rfl, rfl⟩)
    | (go_at_call 18; refine (HDo.out _ ((Below.refl _ _).drew)).mono ?_; rintro e w3 ⟨rfl, hs3, hx3, y1, hz3⟩; have y0 := hx3.cell 0; have z0 := hz3.cell 0; have z1 := hz3.cell 1; have z2 := hz3.cell 2; have z3 := hz3.cell 3; have z4 := hz3.cell 4; have z5 := hz3.cell 5; have z6 := hz3.cell 6; have z7 := hz3.cell 7; have z8 := hz3.cell 8))
  all_goals
    have HS : Hid (Sx W w3 W0 (NN + 1) (MM + 1)) := hs3
    clear hs3 hx3 hz3 y0 y1 z0 z1 z2 z3 z4 z5 z6 z7 z8
    go_wp2_with fail
    go_ret
    exact ⟨rfl, HS.out⟩

theorem step_any (W w : World) (W0 NN MM : Nat) (h : Sx W w W0 NN MM) (hN : NN ≤ 1200000000010) (hM : MM ≤ 1200000000000) (o : OpRec) (ho : OpOk W o) :
    Calls Tryz.prog 7 #[.pointer (some ⟨W0, 0, none⟩), .agg o.cells.toArray] w fun e w' => e = .returned (.bool true) ∧ Sx W w' W0 (NN + 1) (MM + 1) := by
  obtain ⟨kind, wat, N, b, pt, ct, ts, a1, a2, al, pa, ca, qs⟩ := o
  by_cases h1 : kind = 1
  · subst h1
    exact step_watch W w W0 NN MM h hN wat N b pt ct ts a1 a2 al pa ca qs
  · by_cases h6 : kind = 6
    · subst h6
      exact step_incl W w W0 NN MM h hM wat N b pt ct ts a1 a2 al pa ca qs ho.ts ho.tsI
    · by_cases h7 : kind = 7
      · subst h7
        exact step_ext W w W0 NN MM h hM wat N b pt ct ts a1 a2 al pa ca qs ho.ts ho.tsI
      · have e1 : (kind == 1) = false := beq_eq_false_iff_ne.2 h1
        have e6 : (kind == 6) = false := beq_eq_false_iff_ne.2 h6
        have e7 : (kind == 7) = false := beq_eq_false_iff_ne.2 h7
        by_cases hlo : kind < 2
        · exact step_low W w W0 NN MM h kind e1 e6 e7 hlo wat N b pt ct ts a1 a2 al pa ca qs
        · by_cases hhi : 5 < kind
          · exact step_high W w W0 NN MM h kind e1 e6 e7 hhi wat N b pt ct ts a1 a2 al pa ca qs
          · exact step_does W w W0 NN MM h hN kind e1 e6 e7 (by omega) (by omega) wat N b pt ct ts a1 a2 al pa ca qs ho
end Go.Proofs.YtkhnjipjbhcgdaaGreat
