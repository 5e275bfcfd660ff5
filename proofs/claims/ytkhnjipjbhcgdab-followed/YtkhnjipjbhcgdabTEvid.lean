import Derived.Test.YtkhnjipjbhcgdabAnsW
/-
  THE WALKS of seals.Evidence, inOrder.
-/
namespace Go.Proofs.Ytkhnjipjbhcgdab
open Go.RowKit Hp

theorem less_flip : ∀ (x y : List UInt8), x ≠ y → Op.bytesLess y x = !Op.bytesLess x y := by
  intro x
  induction x with
  | nil =>
    intro y h
    match y with
    | [] => exact absurd rfl h
    | b :: y => rfl
  | cons a x ih =>
    intro y h
    match y with
    | [] => rfl
    | b :: y =>
      unfold Op.bytesLess
      by_cases hab : a = b
      · subst hab
        have hne : x ≠ y := fun he => h (by rw [he])
        have hlt : decide (a < a) = false := decide_eq_false (UInt8.lt_irrefl a)
        rw [hlt, beq_self_eq_true, Bool.false_or, Bool.false_or, Bool.true_and, Bool.true_and]
        exact ih y hne
      · have h1 : (a == b) = false := beq_eq_false_iff_ne.2 hab
        have h2 : (b == a) = false := beq_eq_false_iff_ne.2 (Ne.symm hab)
        rw [h1, h2, Bool.false_and, Bool.false_and, Bool.or_false, Bool.or_false]
        have hn : a.toNat ≠ b.toNat := fun he => hab (UInt8.toNat_inj.1 he)
        by_cases hl : a < b
        · have hl' : a.toNat < b.toNat := UInt8.lt_iff_toNat_lt.1 hl
          rw [decide_eq_true hl, decide_eq_false (fun hh => by have := UInt8.lt_iff_toNat_lt.1 hh; omega)]
          rfl
        · have hl' : ¬ a.toNat < b.toNat := fun hh => hl (UInt8.lt_iff_toNat_lt.2 hh)
          rw [decide_eq_false hl, decide_eq_true (UInt8.lt_iff_toNat_lt.2 (by omega))]
          rfl
theorem toList_ne {a b : ByteArray} (h : ¬ a = b) : a.toList ≠ b.toList := by
  intro he
  apply h
  have h1 : a.data.toList = b.data.toList := by rwa [Go.ByteArray.toList_eq, Go.ByteArray.toList_eq] at he
  exact ByteArray.ext (Array.ext' h1)
theorem head_size (n : Nat) (r : ByteArray) (c s : Nat) (hz : r.size = 4) : (Pl.headText n r c s).size = 11 := by
  unfold Pl.headText
  rw [ByteArray.size_append, ByteArray.size_append, ByteArray.size_append, ByteArray.size_append, Pl.two_size, Pl.two_size, Pl.two_size, hz]
  rfl
theorem keep8 {w1 w2 : World} {k m : Nat} {t : TypeId} {l l' : List Value} (hb : Below w1.heap.size w1 w2) (h1 : Box w1 k t l) (h2 : Box w1 m t l') : Box w2 k t l ∧ Box w2 m t l' := ⟨h1.grow hb h1.lt, h2.grow hb h2.lt⟩

set_option maxRecDepth 100000 in
set_option maxHeartbeats 4000000 in
theorem tevidin_any (n1 c1 s1 n2 c2 s2 : Nat) (r1 r2 : ByteArray) (w : World) (h1 : n1 < 65536) (h2 : c1 < 65536) (h3 : s1 < 65536) (h4 : n2 < 65536) (h5 : c2 < 65536) (h6 : s2 < 65536) (z1 : r1.size = 4) (z2 : r2.size = 4) :
    Calls Try.prog 35 #[.agg #[.int .i64 n1, .string r1, .int .i64 c1, .int .i64 s1], .agg #[.int .i64 n2, .string r2, .int .i64 c2, .int .i64 s2]] w fun e w' => e = .returned (.string (if Op.bytesLess r2.toList r1.toList = true then textV (Pl.headText n2 r2 c2 s2) (Pl.headText n1 r1 c1 s1) else textV (Pl.headText n1 r1 c1 s1) (Pl.headText n2 r2 c2 s2))) ∧ Below w.heap.size w w' := by
  have HT1 : Hid (∀ w, Calls Try.prog 33 #[.agg #[.int .i64 n1, .string r1, .int .i64 c1, .int .i64 s1]] w fun e w' => e = .returned (.string (Pl.headText n1 r1 c1 s1)) ∧ Below w.heap.size w w') := fun w => ttext_any n1 c1 s1 r1 w h1 h2 h3 z1
  have HT2 : Hid (∀ w, Calls Try.prog 33 #[.agg #[.int .i64 n2, .string r2, .int .i64 c2, .int .i64 s2]] w fun e w' => e = .returned (.string (Pl.headText n2 r2 c2 s2)) ∧ Below w.heap.size w w') := fun w => ttext_any n2 c2 s2 r2 w h4 h5 h6 z2
  have hz1 := head_size n1 r1 c1 s1 z1
  have hz2 := head_size n2 r2 c2 s2 z2
  have HV : Hid (∀ a b, textV a b = ⟨#[86]⟩ ++ a ++ b) := fun _ _ => rfl
  generalize Pl.headText n1 r1 c1 s1 = T1 at *
  generalize Pl.headText n2 r2 c2 s2 = T2 at *
  cases hl : Op.bytesLess r2.toList r1.toList with
  | false =>
    rw [if_neg (by simp), HV.out]
    clear HV
    have hk0 : Below w.heap.size w ((w.alloc (.cells #[.int .i64 n1, .string r1, .int .i64 c1, .int .i64 s1] 65)).alloc (.cells #[.int .i64 n2, .string r2, .int .i64 c2, .int .i64 s2] 65)).drew := (((Below.refl _ _).alloc (Nat.le_refl _) _).alloc (by simp) _).drew
    have hx0 : Box ((w.alloc (.cells #[.int .i64 n1, .string r1, .int .i64 c1, .int .i64 s1] 65)).alloc (.cells #[.int .i64 n2, .string r2, .int .i64 c2, .int .i64 s2] 65)).drew w.heap.size 65 [.int .i64 n1, .string r1, .int .i64 c1, .int .i64 s1] := (Box.new w 65 [.int .i64 n1, .string r1, .int .i64 c1, .int .i64 s1]).alloc _
    have hy0 : Box ((w.alloc (.cells #[.int .i64 n1, .string r1, .int .i64 c1, .int .i64 s1] 65)).alloc (.cells #[.int .i64 n2, .string r2, .int .i64 c2, .int .i64 s2] 65)).drew (w.heap.size + 1) 65 [.int .i64 n2, .string r2, .int .i64 c2, .int .i64 s2] := by
      have := Box.new (w.alloc (.cells #[.int .i64 n1, .string r1, .int .i64 c1, .int .i64 s1] 65)) 65 [.int .i64 n2, .string r2, .int .i64 c2, .int .i64 s2]
      rw [show (w.alloc (.cells #[.int .i64 n1, .string r1, .int .i64 c1, .int .i64 s1] 65)).heap.size = w.heap.size + 1 by simp] at this
      exact this
    have q0 := hx0.cell 0
    have q1 := hx0.cell 1
    have q2 := hx0.cell 2
    have q3 := hx0.cell 3
    have q4 := hy0.cell 0
    have q5 := hy0.cell 1
    have q6 := hy0.cell 2
    have q7 := hy0.cell 3
    go_enter Try.func35, Try.ntmps35
    go_wp2_with fail
    go_region_held3 (fun w' => w'.cell? ⟨w.heap.size, 0, none⟩ = some (.int .i64 n1) ∧ w'.cell? ⟨w.heap.size, 1, none⟩ = some (.string r1) ∧ w'.cell? ⟨w.heap.size, 2, none⟩ = some (.int .i64 c1) ∧ w'.cell? ⟨w.heap.size, 3, none⟩ = some (.int .i64 s1) ∧ w'.cell? ⟨w.heap.size + 1, 0, none⟩ = some (.int .i64 n2) ∧ w'.cell? ⟨w.heap.size + 1, 1, none⟩ = some (.string r2) ∧ w'.cell? ⟨w.heap.size + 1, 2, none⟩ = some (.int .i64 c2) ∧ w'.cell? ⟨w.heap.size + 1, 3, none⟩ = some (.int .i64 s2)) (go_keep) (first
      | (go_at_call_of 33 (Value.string r1); refine (HT1.out _).mono ?_; rintro e w2 ⟨rfl, hb2⟩; have hx2 := hx0.grow hb2 hx0.lt; have hy2 := hy0.grow hb2 hy0.lt; have p0 := hx2.cell 0; have p1 := hx2.cell 1; have p2 := hx2.cell 2; have p3 := hx2.cell 3; have p4 := hy2.cell 0; have p5 := hy2.cell 1; have p6 := hy2.cell 2; have p7 := hy2.cell 3)
      | (go_at_call_of 33 (Value.string r2); refine (HT2.out _).mono ?_; rintro e w3 ⟨rfl, hb3⟩; have hx3 := hx2.grow hb3 hx2.lt; have hy3 := hy2.grow hb3 hy2.lt; have o0 := hx3.cell 0; have o1 := hx3.cell 1; have o2 := hx3.cell 2; have o3 := hx3.cell 3; have o4 := hy3.cell 0; have o5 := hy3.cell 1; have o6 := hy3.cell 2; have o7 := hy3.cell 3))
    all_goals
      go_wp2_with fail
      go_ret
      have k2 := hk0.trans (hb2.mono (by simp; omega))
      exact ⟨rfl, k2.trans (hb3.mono k2.size)⟩
  | true =>
    rw [if_pos rfl, HV.out]
    clear HV
    have hk0 : Below w.heap.size w ((w.alloc (.cells #[.int .i64 n2, .string r2, .int .i64 c2, .int .i64 s2] 65)).alloc (.cells #[.int .i64 n1, .string r1, .int .i64 c1, .int .i64 s1] 65)).drew := (((Below.refl _ _).alloc (Nat.le_refl _) _).alloc (by simp) _).drew
    have hx0 : Box ((w.alloc (.cells #[.int .i64 n2, .string r2, .int .i64 c2, .int .i64 s2] 65)).alloc (.cells #[.int .i64 n1, .string r1, .int .i64 c1, .int .i64 s1] 65)).drew w.heap.size 65 [.int .i64 n2, .string r2, .int .i64 c2, .int .i64 s2] := (Box.new w 65 [.int .i64 n2, .string r2, .int .i64 c2, .int .i64 s2]).alloc _
    have hy0 : Box ((w.alloc (.cells #[.int .i64 n2, .string r2, .int .i64 c2, .int .i64 s2] 65)).alloc (.cells #[.int .i64 n1, .string r1, .int .i64 c1, .int .i64 s1] 65)).drew (w.heap.size + 1) 65 [.int .i64 n1, .string r1, .int .i64 c1, .int .i64 s1] := by
      have := Box.new (w.alloc (.cells #[.int .i64 n2, .string r2, .int .i64 c2, .int .i64 s2] 65)) 65 [.int .i64 n1, .string r1, .int .i64 c1, .int .i64 s1]
      rw [show (w.alloc (.cells #[.int .i64 n2, .string r2, .int .i64 c2, .int .i64 s2] 65)).heap.size = w.heap.size + 1 by simp] at this
      exact this
    have q0 := hx0.cell 0
    have q1 := hx0.cell 1
    have q2 := hx0.cell 2
    have q3 := hx0.cell 3
    have q4 := hy0.cell 0
    have q5 := hy0.cell 1
    have q6 := hy0.cell 2
    have q7 := hy0.cell 3
    go_enter Try.func35, Try.ntmps35
    go_wp2_with fail
    go_region_held3 (fun w' => w'.cell? ⟨w.heap.size, 0, none⟩ = some (.int .i64 n2) ∧ w'.cell? ⟨w.heap.size, 1, none⟩ = some (.string r2) ∧ w'.cell? ⟨w.heap.size, 2, none⟩ = some (.int .i64 c2) ∧ w'.cell? ⟨w.heap.size, 3, none⟩ = some (.int .i64 s2) ∧ w'.cell? ⟨w.heap.size + 1, 0, none⟩ = some (.int .i64 n1) ∧ w'.cell? ⟨w.heap.size + 1, 1, none⟩ = some (.string r1) ∧ w'.cell? ⟨w.heap.size + 1, 2, none⟩ = some (.int .i64 c1) ∧ w'.cell? ⟨w.heap.size + 1, 3, none⟩ = some (.int .i64 s1)) (go_keep) (first
      | (go_at_call_of 33 (Value.string r2); refine (HT2.out _).mono ?_; rintro e w2 ⟨rfl, hb2⟩; have hx2 := hx0.grow hb2 hx0.lt; have hy2 := hy0.grow hb2 hy0.lt; have p0 := hx2.cell 0; have p1 := hx2.cell 1; have p2 := hx2.cell 2; have p3 := hx2.cell 3; have p4 := hy2.cell 0; have p5 := hy2.cell 1; have p6 := hy2.cell 2; have p7 := hy2.cell 3)
      | (go_at_call_of 33 (Value.string r1); refine (HT1.out _).mono ?_; rintro e w3 ⟨rfl, hb3⟩; have hx3 := hx2.grow hb3 hx2.lt; have hy3 := hy2.grow hb3 hy2.lt; have o0 := hx3.cell 0; have o1 := hx3.cell 1; have o2 := hx3.cell 2; have o3 := hx3.cell 3; have o4 := hy3.cell 0; have o5 := hy3.cell 1; have o6 := hy3.cell 2; have o7 := hy3.cell 3))
    all_goals
      go_wp2_with fail
      go_ret
      have k2 := hk0.trans (hb2.mono (by simp; omega))
      exact ⟨rfl, k2.trans (hb3.mono k2.size)⟩

set_option maxRecDepth 100000 in
set_option maxHeartbeats 1000000 in
theorem tinorder_any (n1 c1 s1 n2 c2 s2 : Nat) (r1 r2 : ByteArray) (w : World) :
    Calls Try.prog 58 #[.agg #[.int .i64 n1, .string r1, .int .i64 c1, .int .i64 s1], .agg #[.int .i64 n2, .string r2, .int .i64 c2, .int .i64 s2]] w fun e w' => e = .returned (.bool (decide (n1 = n2) && Op.bytesLess r1.toList r2.toList)) ∧ Below w.heap.size w w' := by
  have hk0 : Below w.heap.size w ((w.alloc (.cells #[.int .i64 n1, .string r1, .int .i64 c1, .int .i64 s1] 65)).alloc (.cells #[.int .i64 n2, .string r2, .int .i64 c2, .int .i64 s2] 65)) := ((Below.refl _ _).alloc (Nat.le_refl _) _).alloc (by simp) _
  by_cases h : n1 = n2
  · have hb : ((n1 : Int) == (n2 : Int)) = true := by rw [h]; exact beq_self_eq_true _
    rw [decide_eq_true h, Bool.true_and]
    clear h
    go_enter Try.func58, Try.ntmps58
    go_wp2_with fail
    go_ret
    exact ⟨rfl, hk0⟩
  · have hb : ((n1 : Int) == (n2 : Int)) = false := by rw [beq_eq_false_iff_ne]; omega
    rw [decide_eq_false h, Bool.false_and]
    clear h
    go_enter Try.func58, Try.ntmps58
    go_wp2_with fail
    go_ret
    exact ⟨rfl, hk0⟩

end Go.Proofs.Ytkhnjipjbhcgdab
