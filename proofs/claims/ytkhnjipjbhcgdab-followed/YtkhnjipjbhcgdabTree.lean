import Derived.Test.YtkhnjipjbhcgdabPlainT
import Derived.Test.YtkhnjipjbhcgdabKeep
import Derived.Deep.RegionWith
/-
  THE WALKS of tree.split, treeheadref.below, tree.Root, treeheadref.root.
-/
namespace Go.Proofs.Ytkhnjipjbhcgdab
open Go.RowKit

set_option maxRecDepth 100000 in
set_option maxHeartbeats 400000 in
theorem split_any (n : Nat) (w : World) (h1 : 2 ≤ n) (h2 : n ≤ 64) :
    Calls Try.prog 61 #[.int .i64 n] w fun e w' => e = .returned (.int .i64 (Pl.half n : Nat)) ∧ w' = w := by
  go_enter Try.func61, Try.ntmps61
  go_wp2
  go_loop [3] (fun t => ∃ k : Nat, (k = 1 ∨ k = 2 ∨ k = 4 ∨ k = 8 ∨ k = 16 ∨ k = 32) ∧ k < n ∧ t = .int .i64 k) (fun t => n - (intOf t).toNat)
  case atStart => exact ⟨1, Or.inl rfl, by omega, rfl⟩
  case round =>
    obtain ⟨k, hk, hkn, rfl⟩ := hrel
    have hk32 : 1 ≤ k ∧ k ≤ 32 := by omega
    have HK : Hid _ := hk
    clear hk
    obtain ⟨hk1, hk2⟩ := hk32
    by_cases hlt : 2 * k < n
    · go_wp2
      go_round
      case rel => exact ⟨k * 2, by have := HK.out; omega, by omega, by go_num⟩
      case measure => simp [intOf]; omega
    · have HE : Hid _ := Pl.half_of n k HK.out hkn (by omega)
      go_wp2
      go_ret
      exact ⟨ret_int (by rw [HE.out]), rfl⟩

theorem Row.drew {w : World} {p : Option Addr} {ss : List ByteArray} (hr : Row w p ss) : Row w.drew p ss := hr.grow (Below.refl _ _).drew (Nat.le_refl _)
theorem Row.take {w : World} {p : Option Addr} {ss : List ByteArray} (hr : Row w p ss) (k : Nat) : Row w p (ss.take k) := by
  refine ⟨by have := hr.len; rw [List.length_take]; omega, fun s hs => hr.size s (List.mem_of_mem_take hs), ?_⟩
  rcases hr.cell with h0 | ⟨b, o, rfl, hb, hc⟩
  · exact Or.inl (by rw [h0, List.take_nil])
  · refine Or.inr ⟨b, o, rfl, hb, fun i hi => ?_⟩
    rw [List.length_take] at hi
    rw [hc i (by omega), List.getElem_take]
theorem Row.drop {w : World} {b o : Nat} {ss : List ByteArray} (hr : Row w (some ⟨b, o, none⟩) ss) (k : Nat) : Row w (some ⟨b, o + k, none⟩) (ss.drop k) := by
  refine ⟨by have := hr.len; rw [List.length_drop]; omega, fun s hs => hr.size s (List.mem_of_mem_drop hs), ?_⟩
  rcases hr.cell with h0 | ⟨b', o', he, hb, hc⟩
  · exact Or.inl (by rw [h0, List.drop_nil])
  · simp only [Option.some.injEq, Addr.mk.injEq, and_true] at he
    obtain ⟨rfl, rfl⟩ := he
    refine Or.inr ⟨b, o + k, rfl, hb, fun i hi => ?_⟩
    rw [List.length_drop] at hi
    rw [Nat.add_assoc, hc (k + i) (by omega), List.getElem_drop]

theorem of_of (p : Option Addr) (cap : Nat) (ss : List ByteArray) (l : List UInt8) (w : World) (hr : Row w p ss) (hl : Pl.cat ss = l) :
    Calls Try.prog 28 #[.slice p ss.length cap] w fun e w' => e = .returned (.string (Pl.sum l)) ∧ Below w.heap.size w w' := by
  subst hl
  exact of_any p cap ss w hr
theorem cat3 (c : UInt8) (a b : ByteArray) : Pl.cat [⟨#[c]⟩, a, b] = c :: (a.data.toList ++ b.data.toList) := by simp [Pl.cat]
theorem cat2 (c : UInt8) (a : ByteArray) : Pl.cat [⟨#[c]⟩, a] = c :: a.data.toList := by simp [Pl.cat]
theorem lit1 {a : ByteArray} (ha : a.size ≤ maxLen) : ∀ s ∈ [a], s.size ≤ maxLen := by
  intro s hs
  simp only [List.mem_cons, List.not_mem_nil, or_false] at hs
  rw [hs]; exact ha
theorem lit2 {a b : ByteArray} (ha : a.size ≤ maxLen) (hb : b.size ≤ maxLen) : ∀ s ∈ [a, b], s.size ≤ maxLen := by
  intro s hs
  simp only [List.mem_cons, List.not_mem_nil, or_false] at hs
  rcases hs with rfl | rfl
  · exact ha
  · exact hb
theorem lit3 {a b c : ByteArray} (ha : a.size ≤ maxLen) (hb : b.size ≤ maxLen) (hc : c.size ≤ maxLen) : ∀ s ∈ [a, b, c], s.size ≤ maxLen := by
  intro s hs
  simp only [List.mem_cons, List.not_mem_nil, or_false] at hs
  rcases hs with rfl | rfl | rfl
  · exact ha
  · exact hb
  · exact hc

set_option maxRecDepth 100000 in
set_option maxHeartbeats 1000000 in
theorem root_zero (p : Option Addr) (cap : Nat) (w : World) :
    Calls Try.prog 44 #[.slice p 0 cap] w fun e w' => e = .returned (.string (Pl.root [])) ∧ Below w.heap.size w w' := by
  go_enter Try.func44, Try.ntmps44
  go_wp2_with fail
  refine (of_any (some ⟨w.heap.size, 0, none⟩) 1 [⟨#[69]⟩] _ (Row.lit w [⟨#[69]⟩] (by simp [maxLen]) (lit1 (by decide)))).mono ?_
  rintro e w1 ⟨rfl, hb⟩
  go_wp2_with fail
  go_ret
  exact ⟨rfl, ((Below.refl _ _).alloc (Nat.le_refl _) _).trans (hb.mono (by simp))⟩

set_option maxRecDepth 100000 in
set_option maxHeartbeats 1000000 in
theorem root_one (b o cap : Nat) (s : ByteArray) (w : World) (hc : w.cell? ⟨b, o, none⟩ = some (.string s)) (hs : s.size ≤ maxLen) :
    Calls Try.prog 44 #[.slice (some ⟨b, o, none⟩) 1 cap] w fun e w' => e = .returned (.string (Pl.root [s])) ∧ Below w.heap.size w w' := by
  go_enter Try.func44, Try.ntmps44
  go_wp2_with fail
  refine (of_any (some ⟨w.heap.size, 0, none⟩) 2 [⟨#[76]⟩, s] _ (Row.lit w [⟨#[76]⟩, s] (by simp [maxLen]) (lit2 (by decide) hs))).mono ?_
  rintro e w1 ⟨rfl, hb⟩
  go_wp2_with fail
  go_ret
  exact ⟨rfl, ((Below.refl _ _).alloc (Nat.le_refl _) _).trans (hb.mono (by simp))⟩

theorem root_le (ss : List ByteArray) : (Pl.root ss).size ≤ maxLen := by rw [Pl.root_size]; decide

set_option maxRecDepth 100000 in
set_option maxHeartbeats 1000000 in
/-- More than one leaf, by what is known of fewer ones. -/
theorem root_many (b o cap : Nat) (ss : List ByteArray) (w : World) (h2 : 2 ≤ ss.length) (h40 : ss.length ≤ 40) (hcap : ss.length ≤ cap) (hcm : cap ≤ 9223372036854775807) (hr : Row w (some ⟨b, o, none⟩) ss)
    (ih : ∀ (p : Option Addr) (cap : Nat) (ss' : List ByteArray) (w : World), ss'.length < ss.length → ss'.length ≤ cap → cap ≤ 9223372036854775807 → Row w p ss' →
      Calls Try.prog 44 #[.slice p ss'.length cap] w fun e w' => e = .returned (.string (Pl.root ss')) ∧ Below w.heap.size w w') :
    Calls Try.prog 44 #[.slice (some ⟨b, o, none⟩) ss.length cap] w fun e w' => e = .returned (.string (Pl.root ss)) ∧ Below w.heap.size w w' := by
  have hp := Pl.half_pos ss.length
  have hl := Pl.half_lt ss.length h2
  have e1 : (ss.take (Pl.half ss.length)).length = Pl.half ss.length := by rw [List.length_take]; omega
  have e2 : (ss.drop (Pl.half ss.length)).length = ss.length - Pl.half ss.length := by rw [List.length_drop]
  have hsp := fun w => split_any ss.length w h2 (by omega)
  have HA : Hid (∀ w, Row w (some ⟨b, o, none⟩) ss → Calls Try.prog 44 #[.slice (some ⟨b, o, none⟩) (Pl.half ss.length) cap] w fun e w' => e = .returned (.string (Pl.root (ss.take (Pl.half ss.length)))) ∧ Below w.heap.size w w') := by
    intro w hr
    have := ih (some ⟨b, o, none⟩) cap (ss.take (Pl.half ss.length)) w (by rw [e1]; exact hl) (by rw [e1]; omega) hcm (hr.take _)
    rwa [e1] at this
  have HB : Hid (∀ w, Row w (some ⟨b, o, none⟩) ss → Calls Try.prog 44 #[.slice (some ⟨b, o + Pl.half ss.length, none⟩) (ss.length - Pl.half ss.length) (cap - Pl.half ss.length)] w fun e w' => e = .returned (.string (Pl.root (ss.drop (Pl.half ss.length)))) ∧ Below w.heap.size w w') := by
    intro w hr
    have := ih (some ⟨b, o + Pl.half ss.length, none⟩) (cap - Pl.half ss.length) (ss.drop (Pl.half ss.length)) w (by omega) (by omega) (by omega) (hr.drop _)
    rwa [e2] at this
  have HE : Hid _ := Pl.root_more ss h2
  have HR : Hid _ := hr
  have HS : Hid _ := hsp
  have hne1 : ((ss.length : Int) == 0) = false := beq_eq_false_iff_ne.2 (by omega)
  have hne2 : ((ss.length : Int) == 1) = false := beq_eq_false_iff_ne.2 (by omega)
  clear hr ih e1 e2 hsp
  generalize Pl.half ss.length = k at *
  generalize ss.take k = s1 at *
  generalize ss.drop k = s2 at *
  go_enter Try.func44, Try.ntmps44
  go_wp2_with fail
  refine (HS.out _).mono ?_
  rintro e w1 ⟨rfl, rfl⟩
  go_wp2_with fail
  go_region_with (first
    | (go_at_call_of 44 (Value.slice (some ⟨b, o, none⟩) k cap); refine (HA.out _ ?_).mono ?_; exact HR.out.drew; rintro e w2 ⟨rfl, hb2⟩)
    | (go_at_call_of 44 (Value.slice (some ⟨b, o + k, none⟩) (ss.length - k) (cap - k)); refine (HB.out _ ?_).mono ?_; exact HR.out.drew.grow hb2 (Nat.le_refl _); rintro e w3 ⟨rfl, hb3⟩)
    | (go_at_call 28; refine (of_of (some ⟨w3.heap.size, 0, none⟩) 3 [⟨#[78]⟩, Pl.root s1, Pl.root s2] (78 :: ((Pl.root s1).data.toList ++ (Pl.root s2).data.toList)) _ ?_ (cat3 _ _ _)).mono ?_; exact Row.lit w3 [⟨#[78]⟩, Pl.root s1, Pl.root s2] (by simp [maxLen]) (lit3 (by decide) (root_le _) (root_le _)); rintro e w4 ⟨rfl, hb4⟩))
  all_goals
    go_wp2_with fail
    go_ret
    rw [HE.out]
    refine ⟨rfl, ?_⟩
    have k1 := hb2.trans (hb3.mono hb2.size)
    exact ((Below.refl w1.heap.size w1).drew.trans k1).trans (((Below.refl w1.heap.size w3).alloc (by have := k1.size; simpa using this) _).trans (hb4.mono (by have := k1.size; simp at this ⊢; omega)))

theorem root_any : ∀ (n : Nat) (p : Option Addr) (cap : Nat) (ss : List ByteArray) (w : World), ss.length ≤ n → ss.length ≤ 40 → ss.length ≤ cap → cap ≤ 9223372036854775807 → Row w p ss →
    Calls Try.prog 44 #[.slice p ss.length cap] w fun e w' => e = .returned (.string (Pl.root ss)) ∧ Below w.heap.size w w' := by
  intro n
  induction n with
  | zero =>
    intro p cap ss w h _ _ _ _
    obtain rfl : ss = [] := List.eq_nil_of_length_eq_zero (by omega)
    exact root_zero p cap w
  | succ n ih =>
    intro p cap ss w h h40 hc hm hr
    rcases hr.cell with rfl | ⟨b, o, rfl, hb, hcell⟩
    · exact root_zero p cap w
    · by_cases h1 : ss.length = 1
      · obtain ⟨s, rfl⟩ := List.length_eq_one_iff.1 h1
        exact root_one b o cap s w (hcell 0 (by omega)) (hr.size s (by simp))
      · by_cases h0 : ss.length = 0
        · obtain rfl : ss = [] := List.eq_nil_of_length_eq_zero h0
          exact root_zero _ cap w
        · exact root_many b o cap ss w (by omega) h40 hc hm hr (fun p cap ss' w hl hc hm hr => ih p cap ss' w (by omega) (by omega) hc hm hr)

end Go.Proofs.Ytkhnjipjbhcgdab
