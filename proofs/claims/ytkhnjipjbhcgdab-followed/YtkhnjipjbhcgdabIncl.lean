import Derived.Test.YtkhnjipjbhcgdabParts
import Derived.Laws.AppendOwnNone
import Derived.Test.YtkhnjipjbhcgdabLeaves
/-
  THE WALKS of treeheadref.with, treeheadref.path, treeheadref.parts.
-/
namespace Go.Proofs.Ytkhnjipjbhcgdab
open Go.RowKit

theorem own_len {w : World} {B : Nat} {v : Value} {ss : List ByteArray} (h : Own w B v ss) : ∃ p cap, v = .slice p ss.length cap := by
  rcases h.2 with ⟨hv, h0⟩ | ⟨g, cap, cur, hv, _⟩
  · exact ⟨none, 0, by rw [hv, h0]⟩
  · exact ⟨_, cap, hv⟩
theorem Own.mono {w : World} {B B' : Nat} {v : Value} {ss : List ByteArray} (h : Own w B v ss) (hB : B' ≤ B) : Own w B' v ss := by
  refine ⟨h.1, ?_⟩
  rcases h.2 with hn | ⟨g, cap, cur, rfl, hb, rest⟩
  · exact Or.inl hn
  · exact Or.inr ⟨g, cap, cur, rfl, Nat.le_trans hB hb, rest⟩

end Go.Proofs.Ytkhnjipjbhcgdab

/-
  THE WALKS of treeheadlaw.three, treeheadlaw.rooted, treeheadlaw.Roots.
-/
namespace Go.Proofs.Ytkhnjipjbhcgdab
open Go.RowKit

def abc : List ByteArray := [⟨#[97]⟩, ⟨#[98]⟩, ⟨#[99]⟩]
theorem abc_ok : okB abc = true := by decide
theorem abc_sizes : ∀ s ∈ abc, s.size ≤ maxLen := lit3 (by decide) (by decide) (by decide)

theorem IsRow.grow {w w' : World} {v : Value} {ss : List ByteArray} {B : Nat} (h : IsRow w v ss) (hb : Below B w w') (hB : w.heap.size ≤ B) : IsRow w' v ss := by
  rcases h with h | ⟨a, cap, rfl, hc, hm, hr⟩
  · exact Or.inl h
  · exact Or.inr ⟨a, cap, rfl, hc, hm, hr.grow hb hB⟩
end Go.Proofs.Ytkhnjipjbhcgdab

/-
  THE WALKS of treehead.Include, treehead.Extend, treeheadref.Include, treeheadref.Extend, treeheadlaw.sameTexts.
-/
namespace Go.Proofs.Ytkhnjipjbhcgdab
open Go.RowKit

/-- May there be such a path? -/
def inclB (ss : List ByteArray) (c : Int) : Bool := okB ss && (decide (0 ≤ c) && decide (c < (ss.length : Int)))
def extB (ss : List ByteArray) (c : Int) : Bool := okB ss && (decide (1 ≤ c) && decide (c ≤ (ss.length : Int)))
theorem inclB_yes {ss : List ByteArray} {c : Int} (h : inclB ss c = true) : okB ss = true ∧ ∃ i : Nat, c = (i : Int) ∧ i < ss.length := by
  simp only [inclB, Bool.and_eq_true, decide_eq_true_eq] at h
  obtain ⟨i, hi⟩ := Int.eq_ofNat_of_zero_le h.2.1
  exact ⟨h.1, i, hi, by omega⟩
theorem inclB_no {ss : List ByteArray} {c : Int} (h : inclB ss c = false) : okB ss = false ∨ c < 0 ∨ (ss.length : Int) ≤ c := by
  cases hok : okB ss with
  | false => exact Or.inl rfl
  | true =>
    right
    by_cases h0 : c < 0
    · exact Or.inl h0
    · right
      by_cases h1 : (ss.length : Int) ≤ c
      · exact h1
      · rw [inclB, hok, decide_eq_true (by omega : 0 ≤ c), decide_eq_true (by omega : c < (ss.length : Int))] at h
        cases h
theorem extB_yes {ss : List ByteArray} {c : Int} (h : extB ss c = true) : okB ss = true ∧ ∃ i : Nat, c = (i : Int) ∧ 1 ≤ i ∧ i ≤ ss.length := by
  simp only [extB, Bool.and_eq_true, decide_eq_true_eq] at h
  obtain ⟨i, hi⟩ := Int.eq_ofNat_of_zero_le (show 0 ≤ c by omega)
  exact ⟨h.1, i, hi, by omega, by omega⟩
theorem extB_no {ss : List ByteArray} {c : Int} (h : extB ss c = false) : okB ss = false ∨ c < 1 ∨ (ss.length : Int) < c := by
  cases hok : okB ss with
  | false => exact Or.inl rfl
  | true =>
    right
    by_cases h0 : c < 1
    · exact Or.inl h0
    · right
      by_cases h1 : (ss.length : Int) < c
      · exact h1
      · rw [extB, hok, decide_eq_true (by omega : 1 ≤ c), decide_eq_true (by omega : c ≤ (ss.length : Int))] at h
        cases h

theorem row_at {w : World} {p : Option Addr} {ss : List ByteArray} (hr : Row w p ss) (h : 0 < ss.length) : ∃ b o, p = some ⟨b, o, none⟩ := by
  rcases hr.cell with h0 | ⟨b, o, h1, _⟩
  · rw [h0] at h; cases h
  · exact ⟨b, o, h1⟩

set_option maxRecDepth 100000 in
set_option maxHeartbeats 1000000 in
theorem tincl_yes (p : Option Addr) (cap : Nat) (ss : List ByteArray) (c : Int) (w : World) (hc : ss.length ≤ cap) (hm : cap ≤ 9223372036854775807) (hr : Row w p ss) (h : inclB ss c = true) :
    Calls Try.prog 21 #[.slice p ss.length cap, .int .i64 c] w fun e w' => ∃ v, e = .returned (.tuple #[v, .int .i64 0]) ∧ Own w' w.heap.size v (Pl.path ss c.toNat) ∧ Below w.heap.size w w' := by
  obtain ⟨hok, i, rfl, hi⟩ := inclB_yes h
  obtain ⟨b, o, rfl⟩ := row_at hr (by omega)
  have hmay := may_any (some ⟨b, o, none⟩) cap ss w hr
  rw [hok] at hmay
  have hL := lpath_any ss.length b o cap ss i w (Nat.le_refl _) (okB_yes hok).1 (by omega) hm hr hi
  rw [Int.toNat_natCast]
  have hlen : ss.length ≤ 40 := (okB_yes hok).1
  clear h hr hok
  go_enter Try.func21, Try.ntmps21
  go_wp2_with fail
  refine hmay.mono ?_
  rintro e w1 ⟨rfl, rfl⟩
  go_wp2_with fail
  refine hL.mono ?_
  rintro e w2 ⟨v, rfl, ho, hb⟩
  have HO : Hid (Own w2 w1.heap.size v (Pl.path ss i)) := ho
  clear ho
  go_wp2_with fail
  go_ret2
  exact ⟨_, rfl, HO.out, hb⟩

set_option maxRecDepth 100000 in
set_option maxHeartbeats 1000000 in
theorem tincl_no (p : Option Addr) (cap : Nat) (ss : List ByteArray) (c : Int) (w : World) (hr : Row w p ss) (h : inclB ss c = false) :
    Calls Try.prog 21 #[.slice p ss.length cap, .int .i64 c] w fun e w' => e = .returned (.tuple #[.slice none 0 0, .int .i64 1]) ∧ w' = w := by
  have hmay := may_any p cap ss w hr
  have hl : ss.length ≤ 9223372036854775807 := hr.len
  rcases inclB_no h with hok | h0
  · rw [hok] at hmay
    go_enter Try.func21, Try.ntmps21
    go_wp2_with fail
    refine hmay.mono ?_
    rintro e w1 ⟨rfl, rfl⟩
    go_wp2_with fail
    go_ret2
    exact ⟨rfl, rfl⟩
  · cases hok : okB ss with
    | false =>
      rw [hok] at hmay
      go_enter Try.func21, Try.ntmps21
      go_wp2_with fail
      refine hmay.mono ?_
      rintro e w1 ⟨rfl, rfl⟩
      go_wp2_with fail
      go_ret2
      exact ⟨rfl, rfl⟩
    | true =>
      rw [hok] at hmay
      clear h hok hr
      by_cases h1 : c < 0
      · clear h0
        go_enter Try.func21, Try.ntmps21
        go_wp2_with fail
        refine hmay.mono ?_
        rintro e w1 ⟨rfl, rfl⟩
        go_wp2_with fail
        go_ret2
        exact ⟨rfl, rfl⟩
      · have h2 : (ss.length : Int) ≤ c := by omega
        clear h0
        go_enter Try.func21, Try.ntmps21
        go_wp2_with fail
        refine hmay.mono ?_
        rintro e w1 ⟨rfl, rfl⟩
        go_wp2_with fail
        go_ret2
        exact ⟨rfl, rfl⟩

set_option maxRecDepth 100000 in
set_option maxHeartbeats 1000000 in
theorem text_yes (p : Option Addr) (cap : Nat) (ss : List ByteArray) (c : Int) (w : World) (hc : ss.length ≤ cap) (hm : cap ≤ 9223372036854775807) (hr : Row w p ss) (h : extB ss c = true) :
    Calls Try.prog 18 #[.slice p ss.length cap, .int .i64 c] w fun e w' => ∃ v, e = .returned (.tuple #[v, .int .i64 0]) ∧ Own w' w.heap.size v (Pl.parts ss c.toNat true) ∧ Below w.heap.size w w' := by
  obtain ⟨hok, i, rfl, hi, hi2⟩ := extB_yes h
  obtain ⟨b, o, rfl⟩ := row_at hr (by omega)
  have hmay := may_any (some ⟨b, o, none⟩) cap ss w hr
  rw [hok] at hmay
  have hL := growth_any b o cap ss i w (okB_yes hok).1 (by omega) hm hr hi hi2
  rw [Int.toNat_natCast]
  have hlen : ss.length ≤ 40 := (okB_yes hok).1
  clear h hr hok
  go_enter Try.func18, Try.ntmps18
  go_wp2_with fail
  refine hmay.mono ?_
  rintro e w1 ⟨rfl, rfl⟩
  go_wp2_with fail
  refine hL.mono ?_
  rintro e w2 ⟨v, rfl, ho, hb⟩
  have HO : Hid (Own w2 w1.heap.size v (Pl.parts ss i true)) := ho
  clear ho
  go_wp2_with fail
  go_ret2
  exact ⟨_, rfl, HO.out, hb⟩

set_option maxRecDepth 100000 in
set_option maxHeartbeats 1000000 in
theorem text_no (p : Option Addr) (cap : Nat) (ss : List ByteArray) (c : Int) (w : World) (hr : Row w p ss) (h : extB ss c = false) :
    Calls Try.prog 18 #[.slice p ss.length cap, .int .i64 c] w fun e w' => e = .returned (.tuple #[.slice none 0 0, .int .i64 1]) ∧ w' = w := by
  have hmay := may_any p cap ss w hr
  have hl : ss.length ≤ 9223372036854775807 := hr.len
  rcases extB_no h with hok | h0
  · rw [hok] at hmay
    go_enter Try.func18, Try.ntmps18
    go_wp2_with fail
    refine hmay.mono ?_
    rintro e w1 ⟨rfl, rfl⟩
    go_wp2_with fail
    go_ret2
    exact ⟨rfl, rfl⟩
  · cases hok : okB ss with
    | false =>
      rw [hok] at hmay
      go_enter Try.func18, Try.ntmps18
      go_wp2_with fail
      refine hmay.mono ?_
      rintro e w1 ⟨rfl, rfl⟩
      go_wp2_with fail
      go_ret2
      exact ⟨rfl, rfl⟩
    | true =>
      rw [hok] at hmay
      clear h hok hr
      by_cases h1 : c < 1
      · clear h0
        go_enter Try.func18, Try.ntmps18
        go_wp2_with fail
        refine hmay.mono ?_
        rintro e w1 ⟨rfl, rfl⟩
        go_wp2_with fail
        go_ret2
        exact ⟨rfl, rfl⟩
      · have h2 : (ss.length : Int) < c := by omega
        clear h0
        go_enter Try.func18, Try.ntmps18
        go_wp2_with fail
        refine hmay.mono ?_
        rintro e w1 ⟨rfl, rfl⟩
        go_wp2_with fail
        go_ret2
        exact ⟨rfl, rfl⟩

/-- Rows of the law's own. -/
theorem Own.row {w : World} {B : Nat} {v : Value} {ss : List ByteArray} (h : Own w B v ss) (hs : ∀ s ∈ ss, s.size ≤ maxLen) (hl : ss.length ≤ maxLen) : ∃ p cap, v = .slice p ss.length cap ∧ Row w p ss := by
  rcases h.2 with ⟨hv, h0⟩ | ⟨g, cap, cur, hv, _⟩
  · obtain rfl : ss = [] := List.eq_nil_of_length_eq_zero h0
    exact ⟨none, 0, hv, row_nil w⟩
  · by_cases hne : ss = []
    · subst hne
      exact ⟨_, cap, hv, by simp, by simp, Or.inl rfl⟩
    · obtain ⟨g, cap, hv, _, _, _, hr⟩ := h.open hne hs hl
      exact ⟨_, cap, hv, hr⟩
end Go.Proofs.Ytkhnjipjbhcgdab
