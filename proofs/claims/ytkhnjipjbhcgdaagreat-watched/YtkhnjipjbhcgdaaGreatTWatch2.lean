import Derived.Test.YtkhnjipjbhcgdaaGreatWTakes
import Derived.Test.YtkhnjipjbhcgdaaGreatRWatch2
import Derived.Test.YtkhnjipjbhcgdaaGreatTWatch
/-
  THE WALK of (*treeheadlaw.World).watch.
-/
namespace Go.Proofs.YtkhnjipjbhcgdaaGreat
open Go.RowKit Hp

set_option maxRecDepth 100000 in
set_option maxHeartbeats 2000000 in
theorem watch_no (key : Int) (W0 : Nat) (w : World) (h : Pl.keyB key = false) :
    Calls Tryz.prog 4 #[.pointer (some ⟨W0, 0, none⟩), .int .i64 key] w fun e w' => e = .returned (.bool true) ∧ w' = w := by
  have HT : Hid _ := twatch_no key w h
  have HR : Hid _ := rwatch_no key w h
  clear h
  go_enter Tryz.func4, Tryz.ntmps4
  go_wp2_with fail
  refine Calls.mono HT.out ?_
  rintro e w1 ⟨rfl, rfl⟩
  go_wp2_with fail
  refine Calls.mono HR.out ?_
  rintro e w2 ⟨rfl, rfl⟩
  go_wp2_with fail
  go_ret
  exact ⟨rfl, rfl⟩

theorem one_ptr {a : Option Addr} : ∀ u ∈ [Value.pointer a], u.oneCell' = true := by intro u hu; simp at hu; subst hu; rfl
theorem ptr_new (w : World) (o : Obj) (x : Value) (t : TypeId) : ∀ j u, [x][j]? = some u → ((w.alloc o).alloc (.cells #[x] t)).cell? ((⟨w.heap.size + 1, 0, none⟩ : Addr).add j) = some u := by
  intro j u hu
  have h := cell_one_new (w.alloc o) x t j u hu
  rwa [show (w.alloc o).heap.size = w.heap.size + 1 by simp] at h

set_option maxRecDepth 100000 in
set_option maxHeartbeats 4000000 in
theorem watch_yes (key : Int) (w : World) (B W0 n m1 m2 : Nat) (P : Nat → PRec) (v1 v2 v3 : Value) (L1 L3 : Nat → Value) (h : St w B W0 n m1 m2 P v1 v2 v3 L1 L3) (hk : Pl.keyB key = true) (hB : B ≤ w.heap.size) (hn : n ≤ 1200000000010) :
    Calls Tryz.prog 4 #[.pointer (some ⟨W0, 0, none⟩), .int .i64 key] w fun e w' => e = .returned (.bool true) ∧ ∃ v1' P', St w' B W0 (n + 1) m1 m2 P' v1' v2 v3 L1 L3 ∧ Below B w w' := by
  obtain ⟨i0, hinf, hz0, hz1, hz2⟩ := info_parts infoPair
  obtain ⟨p1, k1, e1⟩ := own_slice h.ps
  subst e1
  have HT : Hid _ := twatch_yes key w hk
  have HR : Hid _ := fun w => rwatch_yes key w hk
  have H : Hid (St w B W0 n m1 m2 P (.slice p1 n k1) v2 v3 L1 L3) := h
  have hW := h.hW
  clear h hk
  go_enter Tryz.func4, Tryz.ntmps4
  go_wp2_with fail
  refine Calls.mono HT.out ?_
  rintro e w1 ⟨rfl, hw1, hb1⟩
  go_wp2_with fail
  refine (HR.out _).mono ?_
  rintro e w2 ⟨rfl, hw2⟩
  have hb2 : Below w1.heap.size w1 w2 := by rw [hw2]; exact (Below.refl _ _).alloc (Nat.le_refl _) _
  have hk2 : Below w.heap.size w w2 := hb1.trans (hb2.mono hb1.size)
  have H2 : Hid (St w2 B W0 n m1 m2 P (.slice p1 n k1) v2 v3 L1 L3) := H.out.grow hk2
  have HW2 : Hid (Wt w2 (w.heap.size + 1) w.heap.size none key 0 ⟨#[]⟩ false false) := Wt.grow hw1 hb2
  have HR2 : Hid (Box w2 w1.heap.size 67 [.int .i64 key, .int .i64 0, .string ⟨#[]⟩, .bool false, .bool false]) := by rw [hw2]; exact Box.new w1 _ _
  have HN : Hid (∀ i, i < n → (P i).F ≠ w.heap.size + 1 ∧ (P i).C ≠ w.heap.size ∧ (P i).R ≠ w1.heap.size) := fun i hi => by
    have a := H.out.pr i hi
    have a1 := a.lt (P i).F (Or.inl rfl)
    have a2 := a.lt (P i).C (Or.inr (Or.inl rfl))
    have a3 := a.lt (P i).R (Or.inr (Or.inr rfl))
    have := hb1.size
    omega
  have hR : B ≤ w1.heap.size := Nat.le_trans hB hb1.size
  have hF : B ≤ w.heap.size + 1 := by omega
  have hB2 : B ≤ w2.heap.size := Nat.le_trans hB hk2.size
  have HBB : Hid (Below B w w2) := hk2.mono hB
  clear hw2 hw1 hb1 hb2 hk2 H HT HR
  generalize w.heap.size + 1 = F at *
  generalize w.heap.size = C at *
  generalize w1.heap.size = R at *
  have c0 := H2.out.box.cell 0
  go_wp2_with (at_builtin; refine wpList_append_mine _ rfl _ _ 24 rfl B 48 i0 (.pointer none) 1 8 Tryz.underlying24 hinf hz0 hz1 hz2 rfl (by decide) _ n _ rfl (World.ownsRow.alloc (World.ownsRow.alloc H2.out.ps _) _) ⟨w2.heap.size + 1, 0, none⟩ 1 1 [.pointer (some ⟨w2.heap.size, 0, none⟩)] rfl rfl (ptr_new _ _ _ _) one_ptr (by unfold maxLen; omega) (by omega) (by simp; omega) ?_)
  intro v1' w4 ho hg hnn
  obtain ⟨p4, k4, rfl⟩ := own_slice ho
  have g3 : Below w2.heap.size w2 ((w2.alloc (.cells #[.pointer (some ⟨F, 0, none⟩), .pointer (some ⟨R, 0, none⟩)] 50)).alloc (.cells #[.pointer (some ⟨w2.heap.size, 0, none⟩)] 48)) := ((Below.refl _ _).alloc (Nat.le_refl _) _).alloc (by simp) _
  have HSa : Hid (St _ B W0 n m1 m2 P (.slice p1 n k1) v2 v3 L1 L3) := H2.out.grow g3
  have hpr : PrOk ((w2.alloc (.cells #[.pointer (some ⟨F, 0, none⟩), .pointer (some ⟨R, 0, none⟩)] 50)).alloc (.cells #[.pointer (some ⟨w2.heap.size, 0, none⟩)] 48)) B ⟨w2.heap.size, F, C, R, none, key, 0, ⟨#[]⟩, false, false⟩ :=
    ⟨⟨hF, hB, hR⟩, (Box.new w2 50 [.pointer (some ⟨F, 0, none⟩), .pointer (some ⟨R, 0, none⟩)]).alloc _, HW2.out.grow g3, HR2.out.grow g3 HR2.out.lt, (show (⟨#[]⟩ : ByteArray).size ≤ maxLen by decide)⟩
  have b4 := field_box HSa.out.box HSa.out.ps rfl hg
  have d1 := b4.cell 0
  have e1 := b4.frozen 0
  have S5 : Hid (St (w4.setCell ⟨W0, 0, none⟩ (.slice p4 (n + 1) k4)) B W0 (n + 1) m1 m2 _ (.slice p4 (n + 1) k4) v2 v3 L1 L3) := HSa.out.morePs _ hpr HN.out ho hg (fun k hk => by have := hnn k hk; simpa using this)
  have HB5 : Hid (Below B w (w4.setCell ⟨W0, 0, none⟩ (.slice p4 (n + 1) k4))) := HBB.out.trans (((Below.refl B w2).alloc hB2 _).trans (grown_below hg (by simp; omega) (fun k hk => (owns_block H2.out.ps k hk).1) hW))
  clear hpr HSa g3 ho hg hnn b4 H2 HW2 HR2 HN HBB
  go_wp2_with fail
  go_ret
  exact ⟨rfl, _, _, S5.out, HB5.out⟩
end Go.Proofs.YtkhnjipjbhcgdaaGreat

/-
  THE WALKS of the program's watcher: follows, Update, Holds.
-/
namespace Go.Proofs.YtkhnjipjbhcgdaaGreat
open Go.RowKit Hp

set_option maxRecDepth 100000 in
set_option maxHeartbeats 4000000 in
theorem tfollows_any (F C : Nat) (sp : Option Addr) (key : Int) (size : Nat) (root : ByteArray) (seen closed : Bool) (fs : Nat) (fr : ByteArray) (p : Option Addr) (cap : Nat) (path : List ByteArray) (w : World) (h : Wt w F C sp key size root seen closed) (hrs : root.size ≤ maxLen) (hfr : fr.size ≤ maxLen) (hr : Row w p path) (hpc : path.length ≤ cap) :
    Calls Tryz.prog 53 #[.pointer (some ⟨F, 0, none⟩), .agg #[.int .i64 fs, .string fr], .slice p path.length cap] w fun e w' => e = .returned (.bool (goesB size root seen fs fr path)) ∧ Below w.heap.size w w' := by
  have hk0 : Below w.heap.size w (w.alloc (.cells #[.int .i64 fs, .string fr] 59)) := (Below.refl _ _).alloc (Nat.le_refl _) _
  have hx := h.box.alloc (.cells #[.int .i64 fs, .string fr] 59)
  have hn := Box.new w 59 [.int .i64 fs, .string fr]
  have hlt := h.box.lt
  have q1 := hx.cell 1
  have hne : ¬ F = w.heap.size := by omega
  rcases h.head with ⟨rfl, rfl⟩ | ⟨rfl, S, rfl, hS⟩
  · have HG : Hid (goesB size root false fs fr path = decide (path.length = 0)) := by
      show _ = _
      unfold goesB
      rw [if_pos (Or.inl rfl)]
    clear h hx hn
    by_cases hp : path.length = 0
    · have HP : Hid (decide (path.length = 0) = true) := decide_eq_true hp
      have hpi : (path.length : Int) = 0 := by omega
      go_enter Tryz.func53, Tryz.ntmps53
      go_wp2_with fail
      go_ret
      exact ⟨ret_bool (by rw [HG.out, HP.out]), hk0⟩
    · have HP : Hid (decide (path.length = 0) = false) := decide_eq_false hp
      have hpi : ((path.length : Int) == 0) = false := by rw [beq_eq_false_iff_ne]; omega
      clear hp
      go_enter Tryz.func53, Tryz.ntmps53
      go_wp2_with fail
      go_ret
      exact ⟨ret_bool (by rw [HG.out, HP.out]), hk0⟩
  · have hs := hS.alloc (.cells #[.int .i64 fs, .string fr] 59)
    have s0 := hs.cell 0
    have s1 := hs.cell 1
    have sl := hS.lt
    by_cases hz : size = 0
    · subst hz
      have HG : Hid (goesB 0 root true fs fr path = decide (path.length = 0)) := by
        show _ = _
        unfold goesB
        rw [if_pos (Or.inr rfl)]
      clear h hx hn
      by_cases hp : path.length = 0
      · have HP : Hid (decide (path.length = 0) = true) := decide_eq_true hp
        have hpi : (path.length : Int) = 0 := by omega
        go_enter Tryz.func53, Tryz.ntmps53
        go_wp2_with fail
        go_ret
        exact ⟨ret_bool (by rw [HG.out, HP.out]), hk0⟩
      · have HP : Hid (decide (path.length = 0) = false) := decide_eq_false hp
        have hpi : ((path.length : Int) == 0) = false := by rw [beq_eq_false_iff_ne]; omega
        clear hp
        go_enter Tryz.func53, Tryz.ntmps53
        go_wp2_with fail
        go_ret
        exact ⟨ret_bool (by rw [HG.out, HP.out]), hk0⟩
    · have HG : Hid (goesB size root true fs fr path = decide (extA size root fs fr path = 0)) := by
        show _ = _
        unfold goesB
        rw [if_neg (by rintro (h | h); cases h; exact hz h)]
      have hzi : ¬ (size : Int) = 0 := by omega
      have n0 := hn.cell 0
      have n1 := hn.cell 1
      have HE : Hid (∀ w', Below w.heap.size w w' → Calls Tryz.prog 64 #[.agg #[.int .i64 size, .string root], .agg #[.int .i64 fs, .string fr], .slice p path.length cap] w' fun e w'' => e = .returned (.int .i64 (extA size root fs fr path)) ∧ Below w'.heap.size w' w'') := fun w' hb => text_any size fs root fr p cap path w' hrs hfr (hr.grow hb (Nat.le_refl _)) hpc
      generalize extA size root fs fr path = E at *
      have nl := hn.lt
      have xl := hx.lt
      have ssl := hs.lt
      clear hz h
      go_enter Tryz.func53, Tryz.ntmps53
      go_upto_region 3 with fail
      generalize w.alloc (.cells #[.int .i64 fs, .string fr] 59) = W at *
      go_region_held3 (fun w' => w'.cell? ⟨F, 1, none⟩ = some (.pointer (some ⟨S, 0, none⟩)) ∧ w'.cell? ⟨S, 0, none⟩ = some (.int .i64 size) ∧ w'.cell? ⟨S, 1, none⟩ = some (.string root) ∧ w'.cell? ⟨w.heap.size, 0, none⟩ = some (.int .i64 fs) ∧ w'.cell? ⟨w.heap.size, 1, none⟩ = some (.string fr)) (go_keep) (first
        | (go_at_call 64; refine (HE.out _ hk0.drew).mono ?_; rintro e w6 ⟨rfl, hb6⟩; have hb7 : Below W.heap.size W w6 := (Below.refl _ W).drew.trans hb6; have hx6 := hx.grow hb7 hx.lt; have hs6 := hs.grow hb7 hs.lt; have hn6 := hn.grow hb7 hn.lt; have x1 := hx6.cell 1; have y0 := hs6.cell 0; have y1 := hs6.cell 1; have z0 := hn6.cell 0; have z1 := hn6.cell 1))
      all_goals
        have hk7 := hk0.trans (hb7.mono hk0.size)
        by_cases hE : E = 0
        · have HD : Hid (decide (E = 0) = true) := decide_eq_true hE
          subst hE
          go_wp2_with fail
          go_ret
          exact ⟨ret_bool (by rw [HG.out, HD.out]), hk7⟩
        · have HD : Hid (decide (E = 0) = false) := decide_eq_false hE
          have hEb : (E == 0) = false := by rw [beq_eq_false_iff_ne]; exact hE
          go_wp2_with fail
          go_ret
          exact ⟨ret_bool (by rw [HG.out, HD.out]; first | rfl | exact hEb), hk7⟩

set_option maxRecDepth 100000 in
set_option maxHeartbeats 4000000 in
theorem tholds_any (F C : Nat) (sp : Option Addr) (key : Int) (size : Nat) (root : ByteArray) (seen closed : Bool) (n i : Int) (leaf : ByteArray) (p : Option Addr) (cap : Nat) (path : List ByteArray) (w : World) (h : Wt w F C sp key size root seen closed) (hrs : root.size ≤ maxLen) (hl : leaf.size ≤ maxLen) (hr : Row w p path) :
    Calls Tryz.prog 35 #[.pointer (some ⟨F, 0, none⟩), .agg #[.int .i64 n, .int .i64 i, .string leaf, .slice p path.length cap]] w fun e w' => e = .returned (.int .i64 (holdsP size root seen closed n i leaf path)) ∧ Below w.heap.size w w' := by
  have hk0 : Below w.heap.size w (w.alloc (.cells #[.int .i64 n, .int .i64 i, .string leaf, .slice p path.length cap] 37)) := (Below.refl _ _).alloc (Nat.le_refl _) _
  have hW := h.grow hk0
  have hn := Box.new w 37 [.int .i64 n, .int .i64 i, .string leaf, .slice p path.length cap]
  have HI : Hid _ := tisclosed_any F C sp key size root seen closed _ hW
  cases closed with
  | true =>
    have HV : Hid (holdsP size root seen true n i leaf path = 10) := rfl
    go_enter Tryz.func35, Tryz.ntmps35
    go_wp2_with fail
    refine Calls.mono HI.out ?_
    rintro e w1 ⟨rfl, rfl⟩
    go_wp2_with fail
    go_ret
    exact ⟨ret_int HV.out.symm, hk0⟩
  | false =>
    have q1 := hW.box.cell 1
    rcases hW.head with ⟨rfl, rfl⟩ | ⟨rfl, S, rfl, hS⟩
    · have HV : Hid (holdsP size root false false n i leaf path = 7) := rfl
      go_enter Tryz.func35, Tryz.ntmps35
      go_wp2_with fail
      refine Calls.mono HI.out ?_
      rintro e w1 ⟨rfl, rfl⟩
      go_wp2_with fail
      go_ret
      exact ⟨ret_int HV.out.symm, hk0⟩
    · have s0 := hS.cell 0
      have s1 := hS.cell 1
      have n0 := hn.cell 0
      have n1 := hn.cell 1
      have n2 := hn.cell 2
      have n3 := hn.cell 3
      have hx := hW.box
      by_cases hns : n = size
      · have HV : Hid (holdsP size root true false n i leaf path = inclA root n i leaf path) := by
          show _ = _
          unfold holdsP
          rw [if_neg (by simp), if_neg (by simp), if_neg (fun h => h hns)]
        have HE : Hid (∀ w', Below w.heap.size w w' → Calls Tryz.prog 56 #[.string root, .agg #[.int .i64 n, .int .i64 i, .string leaf, .slice p path.length cap]] w' fun e w'' => e = .returned (.int .i64 (inclA root n i leaf path)) ∧ Below w'.heap.size w' w'') := fun w' hb => tincl_any root n i leaf p cap path w' hrs hl (hr.grow hb (Nat.le_refl _))
        generalize inclA root n i leaf path = E at *
        have HNS : Hid _ := hns
        clear h hW hns
        go_enter Tryz.func35, Tryz.ntmps35
        go_wp2_with fail
        refine Calls.mono HI.out ?_
        rintro e w1 ⟨rfl, rfl⟩
        clear HI
        go_upto_region 5 with fail
        generalize w.alloc (.cells #[.int .i64 n, .int .i64 i, .string leaf, .slice p path.length cap] 37) = W at *
        have hnb : (n != (size : Int)) = false := by have := HNS.out; simp [this]
        go_quiet (fail)
        have hbq : Below W.heap.size W (W.drewN nq) := below_drewN (Below.refl _ _) nq
        have hkq := hk0.trans (hbq.mono hk0.size)
        have hxq := hx.grow hbq hx.lt
        have hSq := hS.grow hbq hS.lt
        have hnq := hn.grow hbq hn.lt
        clear s0 s1 n0 n1 n2 n3 q1 hbq hk0 hx hS hn
        generalize W.drewN nq = W2 at *
        have q1 := hxq.cell 1
        have s1 := hSq.cell 1
        have n0 := hnq.cell 0
        have n1 := hnq.cell 1
        have n2 := hnq.cell 2
        have n3 := hnq.cell 3
        go_upto_region 7 with fail
        go_region_held3 (fun w' => w'.cell? ⟨F, 1, none⟩ = some (.pointer (some ⟨S, 0, none⟩)) ∧ w'.cell? ⟨S, 1, none⟩ = some (.string root) ∧ w'.cell? ⟨w.heap.size, 0, none⟩ = some (.int .i64 n) ∧ w'.cell? ⟨w.heap.size, 1, none⟩ = some (.int .i64 i) ∧ w'.cell? ⟨w.heap.size, 2, none⟩ = some (.string leaf) ∧ w'.cell? ⟨w.heap.size, 3, none⟩ = some (.slice p path.length cap)) (go_keep) (first
          | (go_at_call 56; refine (HE.out _ hkq.drew).mono ?_; rintro e w6 ⟨rfl, hb6⟩; have hb7 : Below W2.heap.size W2 w6 := (Below.refl _ W2).drew.trans hb6; have hx6 := hxq.grow hb7 hxq.lt; have hs6 := hSq.grow hb7 hSq.lt; have hn6 := hnq.grow hb7 hnq.lt; have x1 := hx6.cell 1; have y1 := hs6.cell 1; have z0 := hn6.cell 0; have z1 := hn6.cell 1; have z2 := hn6.cell 2; have z3 := hn6.cell 3))
        all_goals
          have hk7 := hkq.trans (hb7.mono hkq.size)
          go_wp2_with fail
          go_ret
          exact ⟨ret_int HV.out.symm, hk7⟩
      · have HV : Hid (holdsP size root true false n i leaf path = 9) := by
          show _ = _
          unfold holdsP
          rw [if_neg (by simp), if_neg (by simp), if_pos hns]
        have hnb : (n != (size : Int)) = true := by rw [bne_iff_ne]; exact hns
        clear h hW
        go_enter Tryz.func35, Tryz.ntmps35
        go_wp2_with fail
        refine Calls.mono HI.out ?_
        rintro e w1 ⟨rfl, rfl⟩
        clear HI
        go_upto_region 5 with fail
        generalize w.alloc (.cells #[.int .i64 n, .int .i64 i, .string leaf, .slice p path.length cap] 37) = W at *
        go_quiet (fail)
        go_wp2_with fail
        go_ret
        exact ⟨ret_int HV.out.symm, below_drewN hk0 _⟩
end Go.Proofs.YtkhnjipjbhcgdaaGreat
