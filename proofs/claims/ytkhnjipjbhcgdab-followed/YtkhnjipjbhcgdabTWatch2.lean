import Derived.Test.YtkhnjipjbhcgdabTWatch
/-
  THE WALKS of the program's watcher: follows, Update, Holds.
-/
namespace Go.Proofs.Ytkhnjipjbhcgdab
open Go.RowKit Hp

set_option maxRecDepth 100000 in
set_option maxHeartbeats 4000000 in
theorem tfollows_any (F C : Nat) (sp : Option Addr) (key : Int) (size : Nat) (root : ByteArray) (seen closed : Bool) (fs : Nat) (fr : ByteArray) (p : Option Addr) (cap : Nat) (path : List ByteArray) (w : World) (h : Wt w F C sp key size root seen closed) (hrs : root.size ≤ maxLen) (hfr : fr.size ≤ maxLen) (hr : Row w p path) (hpc : path.length ≤ cap) :
    Calls Try.prog 42 #[.pointer (some ⟨F, 0, none⟩), .agg #[.int .i64 fs, .string fr], .slice p path.length cap] w fun e w' => e = .returned (.bool (goesB size root seen fs fr path)) ∧ Below w.heap.size w w' := by
  have hk0 : Below w.heap.size w (w.alloc (.cells #[.int .i64 fs, .string fr] 27)) := (Below.refl _ _).alloc (Nat.le_refl _) _
  have hx := h.box.alloc (.cells #[.int .i64 fs, .string fr] 27)
  have hn := Box.new w 27 [.int .i64 fs, .string fr]
  have hlt := h.box.lt
  have q1 := hx.cell 1
  have hne : ¬ F = w.heap.size := by omega
  rcases h.head with ⟨rfl, rfl⟩ | ⟨rfl, S, rfl, hS⟩
  · have HG : Hid (goesB size root false fs fr path = decide (path.length = 0)) := by
      show _ = _
      unfold goesB
      rw [if_pos (Or.inl rfl)]
    clear h hx hn
    by_cases hp : path.length = 0
    · have HP : Hid (decide (path.length = 0) = true) := decide_eq_true hp
      have hpi : (path.length : Int) = 0 := by omega
      go_enter Try.func42, Try.ntmps42
      go_wp2_with fail
      go_ret
      exact ⟨ret_bool (by rw [HG.out, HP.out]), hk0⟩
    · have HP : Hid (decide (path.length = 0) = false) := decide_eq_false hp
      have hpi : ((path.length : Int) == 0) = false := by rw [beq_eq_false_iff_ne]; omega
      clear hp
      go_enter Try.func42, Try.ntmps42
      go_wp2_with fail
      go_ret
      exact ⟨ret_bool (by rw [HG.out, HP.out]), hk0⟩
  · have hs := hS.alloc (.cells #[.int .i64 fs, .string fr] 27)
    have s0 := hs.cell 0
    have s1 := hs.cell 1
    have sl := hS.lt
    by_cases hz : size = 0
    · subst hz
      have HG : Hid (goesB 0 root true fs fr path = decide (path.length = 0)) := by
        show _ = _
        unfold goesB
        rw [if_pos (Or.inr rfl)]
      clear h hx hn
      by_cases hp : path.length = 0
      · have HP : Hid (decide (path.length = 0) = true) := decide_eq_true hp
        have hpi : (path.length : Int) = 0 := by omega
        go_enter Try.func42, Try.ntmps42
        go_wp2_with fail
        go_ret
        exact ⟨ret_bool (by rw [HG.out, HP.out]), hk0⟩
      · have HP : Hid (decide (path.length = 0) = false) := decide_eq_false hp
        have hpi : ((path.length : Int) == 0) = false := by rw [beq_eq_false_iff_ne]; omega
        clear hp
        go_enter Try.func42, Try.ntmps42
        go_wp2_with fail
        go_ret
        exact ⟨ret_bool (by rw [HG.out, HP.out]), hk0⟩
    · have HG : Hid (goesB size root true fs fr path = decide (extA size root fs fr path = 0)) := by
        show _ = _
        unfold goesB
        rw [if_neg (by rintro (h | h); cases h; exact hz h)]
      have hzi : ¬ (size : Int) = 0 := by omega
      have n0 := hn.cell 0
      have n1 := hn.cell 1
      have HE : Hid (∀ w', Below w.heap.size w w' → Calls Try.prog 26 #[.agg #[.int .i64 size, .string root], .agg #[.int .i64 fs, .string fr], .slice p path.length cap] w' fun e w'' => e = .returned (.int .i64 (extA size root fs fr path)) ∧ Below w'.heap.size w' w'') := fun w' hb => text_any size fs root fr p cap path w' hrs hfr (hr.grow hb (Nat.le_refl _)) hpc
      generalize extA size root fs fr path = E at *
      have nl := hn.lt
      have xl := hx.lt
      have ssl := hs.lt
      clear hz h
      go_enter Try.func42, Try.ntmps42
      go_upto_region 3 with fail
      generalize w.alloc (.cells #[.int .i64 fs, .string fr] 27) = W at *
      go_region_held3 (fun w' => w'.cell? ⟨F, 1, none⟩ = some (.pointer (some ⟨S, 0, none⟩)) ∧ w'.cell? ⟨S, 0, none⟩ = some (.int .i64 size) ∧ w'.cell? ⟨S, 1, none⟩ = some (.string root) ∧ w'.cell? ⟨w.heap.size, 0, none⟩ = some (.int .i64 fs) ∧ w'.cell? ⟨w.heap.size, 1, none⟩ = some (.string fr)) (go_keep) (first
        | (go_at_call 26; refine (HE.out _ hk0.drew).mono ?_; rintro e w6 ⟨rfl, hb6⟩; have hb7 : Below W.heap.size W w6 := (Below.refl _ W).drew.trans hb6; have hx6 := hx.grow hb7 hx.lt; have hs6 := hs.grow hb7 hs.lt; have hn6 := hn.grow hb7 hn.lt; have x1 := hx6.cell 1; have y0 := hs6.cell 0; have y1 := hs6.cell 1; have z0 := hn6.cell 0; have z1 := hn6.cell 1))
      all_goals
        have hk7 := hk0.trans (hb7.mono hk0.size)
        by_cases hE : E = 0
        · have HD : Hid (decide (E = 0) = true) := decide_eq_true hE
          subst hE
          go_wp2_with fail
          go_ret
          exact ⟨ret_bool (by rw [HG.out, HD.out]), hk7⟩
        · have HD : Hid (decide (E = 0) = false) := decide_eq_false hE
          have hEb : (E == 0) = false := by rw [beq_eq_false_iff_ne]; exact hE
          go_wp2_with fail
          go_ret
          exact ⟨ret_bool (by rw [HG.out, HD.out]; first | rfl | exact hEb), hk7⟩

set_option maxRecDepth 100000 in
set_option maxHeartbeats 4000000 in
theorem tholds_any (F C : Nat) (sp : Option Addr) (key : Int) (size : Nat) (root : ByteArray) (seen closed : Bool) (n i : Int) (leaf : ByteArray) (p : Option Addr) (cap : Nat) (path : List ByteArray) (w : World) (h : Wt w F C sp key size root seen closed) (hrs : root.size ≤ maxLen) (hl : leaf.size ≤ maxLen) (hr : Row w p path) :
    Calls Try.prog 22 #[.pointer (some ⟨F, 0, none⟩), .agg #[.int .i64 n, .int .i64 i, .string leaf, .slice p path.length cap]] w fun e w' => e = .returned (.int .i64 (holdsP size root seen closed n i leaf path)) ∧ Below w.heap.size w w' := by
  have hk0 : Below w.heap.size w (w.alloc (.cells #[.int .i64 n, .int .i64 i, .string leaf, .slice p path.length cap] 53)) := (Below.refl _ _).alloc (Nat.le_refl _) _
  have hW := h.grow hk0
  have hn := Box.new w 53 [.int .i64 n, .int .i64 i, .string leaf, .slice p path.length cap]
  have HI : Hid _ := tisclosed_any F C sp key size root seen closed _ hW
  cases closed with
  | true =>
    have HV : Hid (holdsP size root seen true n i leaf path = 10) := rfl
    go_enter Try.func22, Try.ntmps22
    go_wp2_with fail
    refine Calls.mono HI.out ?_
    rintro e w1 ⟨rfl, rfl⟩
    go_wp2_with fail
    go_ret
    exact ⟨ret_int HV.out.symm, hk0⟩
  | false =>
    have q1 := hW.box.cell 1
    rcases hW.head with ⟨rfl, rfl⟩ | ⟨rfl, S, rfl, hS⟩
    · have HV : Hid (holdsP size root false false n i leaf path = 7) := rfl
      go_enter Try.func22, Try.ntmps22
      go_wp2_with fail
      refine Calls.mono HI.out ?_
      rintro e w1 ⟨rfl, rfl⟩
      go_wp2_with fail
      go_ret
      exact ⟨ret_int HV.out.symm, hk0⟩
    · have s0 := hS.cell 0
      have s1 := hS.cell 1
      have n0 := hn.cell 0
      have n1 := hn.cell 1
      have n2 := hn.cell 2
      have n3 := hn.cell 3
      have hx := hW.box
      by_cases hns : n = size
      · have HV : Hid (holdsP size root true false n i leaf path = inclA root n i leaf path) := by
          show _ = _
          unfold holdsP
          rw [if_neg (by simp), if_neg (by simp), if_neg (fun h => h hns)]
        have HE : Hid (∀ w', Below w.heap.size w w' → Calls Try.prog 25 #[.string root, .agg #[.int .i64 n, .int .i64 i, .string leaf, .slice p path.length cap]] w' fun e w'' => e = .returned (.int .i64 (inclA root n i leaf path)) ∧ Below w'.heap.size w' w'') := fun w' hb => tincl_any root n i leaf p cap path w' hrs hl (hr.grow hb (Nat.le_refl _))
        generalize inclA root n i leaf path = E at *
        have HNS : Hid _ := hns
        clear h hW hns
        go_enter Try.func22, Try.ntmps22
        go_wp2_with fail
        refine Calls.mono HI.out ?_
        rintro e w1 ⟨rfl, rfl⟩
        clear HI
        go_upto_region 5 with fail
        generalize w.alloc (.cells #[.int .i64 n, .int .i64 i, .string leaf, .slice p path.length cap] 53) = W at *
        have hnb : (n != (size : Int)) = false := by have := HNS.out; simp [this]
        go_quiet (fail)
        have hbq : Below W.heap.size W (W.drewN nq) := below_drewN (Below.refl _ _) nq
        have hkq := hk0.trans (hbq.mono hk0.size)
        have hxq := hx.grow hbq hx.lt
        have hSq := hS.grow hbq hS.lt
        have hnq := hn.grow hbq hn.lt
        clear s0 s1 n0 n1 n2 n3 q1 hbq hk0 hx hS hn
        generalize W.drewN nq = W2 at *
        have q1 := hxq.cell 1
        have s1 := hSq.cell 1
        have n0 := hnq.cell 0
        have n1 := hnq.cell 1
        have n2 := hnq.cell 2
        have n3 := hnq.cell 3
        go_upto_region 7 with fail
        go_region_held3 (fun w' => w'.cell? ⟨F, 1, none⟩ = some (.pointer (some ⟨S, 0, none⟩)) ∧ w'.cell? ⟨S, 1, none⟩ = some (.string root) ∧ w'.cell? ⟨w.heap.size, 0, none⟩ = some (.int .i64 n) ∧ w'.cell? ⟨w.heap.size, 1, none⟩ = some (.int .i64 i) ∧ w'.cell? ⟨w.heap.size, 2, none⟩ = some (.string leaf) ∧ w'.cell? ⟨w.heap.size, 3, none⟩ = some (.slice p path.length cap)) (go_keep) (first
          | (go_at_call 25; refine (HE.out _ hkq.drew).mono ?_; rintro e w6 ⟨rfl, hb6⟩; have hb7 : Below W2.heap.size W2 w6 := (Below.refl _ W2).drew.trans hb6; have hx6 := hxq.grow hb7 hxq.lt; have hs6 := hSq.grow hb7 hSq.lt; have hn6 := hnq.grow hb7 hnq.lt; have x1 := hx6.cell 1; have y1 := hs6.cell 1; have z0 := hn6.cell 0; have z1 := hn6.cell 1; have z2 := hn6.cell 2; have z3 := hn6.cell 3))
        all_goals
          have hk7 := hkq.trans (hb7.mono hkq.size)
          go_wp2_with fail
          go_ret
          exact ⟨ret_int HV.out.symm, hk7⟩
      · have HV : Hid (holdsP size root true false n i leaf path = 9) := by
          show _ = _
          unfold holdsP
          rw [if_neg (by simp), if_neg (by simp), if_pos hns]
        have hnb : (n != (size : Int)) = true := by rw [bne_iff_ne]; exact hns
        clear h hW
        go_enter Try.func22, Try.ntmps22
        go_wp2_with fail
        refine Calls.mono HI.out ?_
        rintro e w1 ⟨rfl, rfl⟩
        clear HI
        go_upto_region 5 with fail
        generalize w.alloc (.cells #[.int .i64 n, .int .i64 i, .string leaf, .slice p path.length cap] 53) = W at *
        go_quiet (fail)
        go_wp2_with fail
        go_ret
        exact ⟨ret_int HV.out.symm, below_drewN hk0 _⟩
end Go.Proofs.Ytkhnjipjbhcgdab
