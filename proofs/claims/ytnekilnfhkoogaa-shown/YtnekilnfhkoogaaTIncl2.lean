/-
  THE WALK of treehead.Included.
-/
import Derived.Test.YtnekilnfhkoogaaTIncl
import Derived.Test.YtnekilnfhkoogaaAns2
namespace Go.Proofs.Ytnekilnfhkoogaa
open Go.RowKit Hp

theorem bytes_ne {a b : ByteArray} (h : ¬ a = b) : (a.toList == b.toList) = false := by
  rw [beq_eq_false_iff_ne]
  intro he
  apply h
  have h1 : a.data.toList = b.data.toList := by rwa [Go.ByteArray.toList_eq, Go.ByteArray.toList_eq] at he
  exact ByteArray.ext (Array.ext' h1)
theorem ansB_parts {size index : Int} {leaf : ByteArray} (h : Pl.ansB size index leaf = true) : 1 ≤ size ∧ size ≤ 40 ∧ 0 ≤ index ∧ index < size ∧ leaf.size ≤ 30 := by
  unfold Pl.ansB at h
  simp only [Bool.and_eq_true, decide_eq_true_iff] at h
  exact ⟨h.1.1.1.1, h.1.1.1.2, h.1.1.2, h.1.2, h.2⟩

set_option maxRecDepth 100000 in
set_option maxHeartbeats 1000000 in
theorem tincl_arg (r : ByteArray) (size index : Int) (leaf : ByteArray) (p : Option Addr) (n cap : Nat) (w : World) (hrs : r.size ≤ maxLen) (hl : leaf.size ≤ maxLen) (h : ¬ (Pl.isSumB r = true ∧ Pl.ansB size index leaf = true)) :
    Calls Try.prog 25 #[.string r, .agg #[.int .i64 size, .int .i64 index, .string leaf, .slice p n cap]] w fun e w' => e = .returned (.int .i64 1) ∧ Below w.heap.size w w' := by
  have HI : Hid _ := fun w => tis_any r w hrs
  have HM : Hid _ := fun w => tmayans_any size index leaf (.slice p n cap) w hl ⟨_, _, _, rfl⟩
  have hB0 : Below w.heap.size w (w.alloc (.cells #[.int .i64 size, .int .i64 index, .string leaf, .slice p n cap] 36)) := (Below.refl _ _).alloc (Nat.le_refl _) _
  cases h1 : Pl.isSumB r with
  | false =>
    rw [h1] at HI
    go_enter Try.func25, Try.ntmps25
    go_wp2_with fail
    refine (HI.out _).mono ?_
    rintro e w1 ⟨rfl, rfl⟩
    go_wp2_with fail
    go_ret
    exact ⟨rfl, hB0⟩
  | true =>
    have h2 : Pl.ansB size index leaf = false := by
      cases h2 : Pl.ansB size index leaf with
      | false => rfl
      | true => exact absurd ⟨h1, h2⟩ h
    rw [h1] at HI
    rw [h2] at HM
    clear h h1 h2
    go_enter Try.func25, Try.ntmps25
    go_wp2_with fail
    refine (HI.out _).mono ?_
    rintro e w1 ⟨rfl, rfl⟩
    go_wp2_with fail
    refine (HM.out _).mono ?_
    rintro e w2 ⟨rfl, hb2⟩
    go_wp2_with fail
    go_ret
    exact ⟨rfl, hB0.trans (hb2.mono (by simp))⟩

set_option maxRecDepth 100000 in
set_option maxHeartbeats 4000000 in
theorem tincl_fold (r : ByteArray) (size index : Nat) (leaf : ByteArray) (p : Option Addr) (cap : Nat) (P : List ByteArray) (w : World) (h1 : Pl.isSumB r = true) (h2 : Pl.ansB size index leaf = true) (hPr : Row w p P) :
    Calls Try.prog 25 #[.string r, .agg #[.int .i64 size, .int .i64 index, .string leaf, .slice p P.length cap]] w fun e w' => e = .returned (.int .i64 (match Pl.leafT leaf index size P with | none => 6 | some (_, x) => if x = r then 0 else 6)) ∧ Below w.heap.size w w' := by
  obtain ⟨a1, a2, _, a4, a5⟩ := ansB_parts h2
  have hr4 := isSumB_size h1
  have hl : leaf.size ≤ maxLen := Nat.le_trans a5 (by decide)
  have HI : Hid _ := fun w => tis_any r w (by rw [hr4]; decide)
  have HM : Hid _ := fun w => tmayans_any size index leaf (.slice p P.length cap) w hl ⟨_, _, _, rfl⟩
  have HF : Hid _ := fun w (h : Row w p P) => tfoldleaf_any leaf index size P p cap w hl (by omega) (by omega) (by omega) h
  rw [h1] at HI
  rw [h2] at HM
  have HPr : Hid _ := hPr
  have hB0 : Below w.heap.size w (w.alloc (.cells #[.int .i64 size, .int .i64 index, .string leaf, .slice p P.length cap] 36)) := (Below.refl _ _).alloc (Nat.le_refl _) _
  have hx0 := Box.new w 36 [.int .i64 size, .int .i64 index, .string leaf, .slice p P.length cap]
  clear hPr a1 a2 a4 a5 h1 h2 hl
  unfold foldL at HF
  cases hT : Pl.leafT leaf index size P with
  | none =>
    rw [hT] at HF
    clear hT
    go_enter Try.func25, Try.ntmps25
    go_wp2_with fail
    refine (HI.out _).mono ?_
    rintro e w1 ⟨rfl, rfl⟩
    go_wp2_with fail
    refine (HM.out _).mono ?_
    rintro e w2 ⟨rfl, hb2⟩
    have hk2 := hB0.trans (hb2.mono (by simp))
    have hx2 := hx0.grow hb2 (by simp)
    have c0 := hx2.cell 0
    have c1 := hx2.cell 1
    have c2 := hx2.cell 2
    have c3 := hx2.cell 3
    clear hb2 hx0 hB0 hx2
    go_wp2_with fail
    refine (HF.out _ (HPr.out.grow hk2 (Nat.le_refl _))).mono ?_
    rintro e w3 ⟨rfl, hb3⟩
    go_wp2_with fail
    go_ret
    exact ⟨rfl, hk2.trans (hb3.mono hk2.size)⟩
  | some x =>
    obtain ⟨t, y⟩ := x
    rw [hT] at HF
    clear hT
    by_cases hy : y = r
    · subst hy
      have HE : Hid ((if y = y then (0 : Int) else 6) = 0) := if_pos rfl
      go_enter Try.func25, Try.ntmps25
      go_wp2_with fail
      refine (HI.out _).mono ?_
      rintro e w1 ⟨rfl, rfl⟩
      go_wp2_with fail
      refine (HM.out _).mono ?_
      rintro e w2 ⟨rfl, hb2⟩
      have hk2 := hB0.trans (hb2.mono (by simp))
      have hx2 := hx0.grow hb2 (by simp)
      have c0 := hx2.cell 0
      have c1 := hx2.cell 1
      have c2 := hx2.cell 2
      have c3 := hx2.cell 3
      clear hb2 hx0 hB0 hx2
      go_wp2_with fail
      refine (HF.out _ (HPr.out.grow hk2 (Nat.le_refl _))).mono ?_
      rintro e w3 ⟨rfl, hb3⟩
      go_wp2_with fail
      go_ret
      first | exact ⟨ret_int HE.out.symm, hk2.trans (hb3.mono hk2.size)⟩ | exact ⟨rfl, hk2.trans (hb3.mono hk2.size)⟩
    · have HE : Hid ((if y = r then (0 : Int) else 6) = 6) := if_neg hy
      have hne := bytes_ne hy
      go_enter Try.func25, Try.ntmps25
      go_wp2_with fail
      refine (HI.out _).mono ?_
      rintro e w1 ⟨rfl, rfl⟩
      go_wp2_with fail
      refine (HM.out _).mono ?_
      rintro e w2 ⟨rfl, hb2⟩
      have hk2 := hB0.trans (hb2.mono (by simp))
      have hx2 := hx0.grow hb2 (by simp)
      have c0 := hx2.cell 0
      have c1 := hx2.cell 1
      have c2 := hx2.cell 2
      have c3 := hx2.cell 3
      clear hb2 hx0 hB0 hx2
      go_wp2_with fail
      refine (HF.out _ (HPr.out.grow hk2 (Nat.le_refl _))).mono ?_
      rintro e w3 ⟨rfl, hb3⟩
      go_wp2_with fail
      go_ret
      first | exact ⟨ret_int HE.out.symm, hk2.trans (hb3.mono hk2.size)⟩ | exact ⟨rfl, hk2.trans (hb3.mono hk2.size)⟩

theorem tincl_any (r : ByteArray) (size index : Int) (leaf : ByteArray) (p : Option Addr) (cap : Nat) (P : List ByteArray) (w : World) (hrs : r.size ≤ maxLen) (hl : leaf.size ≤ maxLen) (hPr : Row w p P) :
    Calls Try.prog 25 #[.string r, .agg #[.int .i64 size, .int .i64 index, .string leaf, .slice p P.length cap]] w fun e w' => e = .returned (.int .i64 (inclA r size index leaf P)) ∧ Below w.heap.size w w' := by
  by_cases h : Pl.isSumB r = true ∧ Pl.ansB size index leaf = true
  · obtain ⟨a1, a2, a3, a4, a5⟩ := ansB_parts h.2
    obtain ⟨n, rfl⟩ : ∃ n : Nat, size = (n : Int) := ⟨size.toNat, by omega⟩
    obtain ⟨i, rfl⟩ : ∃ i : Nat, index = (i : Int) := ⟨index.toNat, by omega⟩
    have he : inclA r n i leaf P = (match Pl.leafT leaf i n P with | none => 6 | some (_, x) => if x = r then 0 else 6) := by
      unfold inclA
      rw [if_pos h, Int.toNat_natCast, Int.toNat_natCast]
      cases Pl.leafT leaf i n P with
      | none => rfl
      | some x => rfl
    rw [he]
    exact tincl_fold r n i leaf p cap P w h.1 h.2 hPr
  · have he : inclA r size index leaf P = 1 := if_neg h
    rw [he]
    exact tincl_arg r size index leaf p P.length cap w hrs hl h

end Go.Proofs.Ytnekilnfhkoogaa
