import Derived.Test.YtkhnjipjbhcgdaaGreatRPath
import Derived.Test.YtkhnjipjbhcgdaaGreatRoots
/-
  THE WALKS of treehead.Include, treehead.Extend, treeheadref.Include, treeheadref.Extend, treeheadlaw.sameTexts.
-/
namespace Go.Proofs.YtkhnjipjbhcgdaaGreat
open Go.RowKit

/-- May there be such a path? -/
def inclB (ss : List ByteArray) (c : Int) : Bool := okB ss && (decide (0 ≤ c) && decide (c < (ss.length : Int)))
def extB (ss : List ByteArray) (c : Int) : Bool := okB ss && (decide (1 ≤ c) && decide (c ≤ (ss.length : Int)))
theorem inclB_yes {ss : List ByteArray} {c : Int} (h : inclB ss c = true) : okB ss = true ∧ ∃ i : Nat, c = (i : Int) ∧ i < ss.length := by
  simp only [inclB, Bool.and_eq_true, decide_eq_true_eq] at h
  obtain ⟨i, hi⟩ := Int.eq_ofNat_of_zero_le h.2.1
  exact ⟨h.1, i, hi, by omega⟩
theorem inclB_no {ss : List ByteArray} {c : Int} (h : inclB ss c = false) : okB ss = false ∨ c < 0 ∨ (ss.length : Int) ≤ c := by
  cases hok : okB ss with
  | false => exact Or.inl rfl
  | true =>
    right
    by_cases h0 : c < 0
    · exact Or.inl h0
    · right
      by_cases h1 : (ss.length : Int) ≤ c
      · exact h1
      · rw [inclB, hok, decide_eq_true (by omega : 0 ≤ c), decide_eq_true (by omega : c < (ss.length : Int))] at h
        cases h
theorem extB_yes {ss : List ByteArray} {c : Int} (h : extB ss c = true) : okB ss = true ∧ ∃ i : Nat, c = (i : Int) ∧ 1 ≤ i ∧ i ≤ ss.length := by
  simp only [extB, Bool.and_eq_true, decide_eq_true_eq] at h
  obtain ⟨i, hi⟩ := Int.eq_ofNat_of_zero_le (show 0 ≤ c by omega)
  exact ⟨h.1, i, hi, by omega, by omega⟩
theorem extB_no {ss : List ByteArray} {c : Int} (h : extB ss c = false) : okB ss = false ∨ c < 1 ∨ (ss.length : Int) < c := by
  cases hok : okB ss with
  | false => exact Or.inl rfl
  | true =>
    right
    by_cases h0 : c < 1
    · exact Or.inl h0
    · right
      by_cases h1 : (ss.length : Int) < c
      · exact h1
      · rw [extB, hok, decide_eq_true (by omega : 1 ≤ c), decide_eq_true (by omega : c ≤ (ss.length : Int))] at h
        cases h

theorem row_at {w : World} {p : Option Addr} {ss : List ByteArray} (hr : Row w p ss) (h : 0 < ss.length) : ∃ b o, p = some ⟨b, o, none⟩ := by
  rcases hr.cell with h0 | ⟨b, o, h1, _⟩
  · rw [h0] at h; cases h
  · exact ⟨b, o, h1⟩

set_option maxRecDepth 100000 in
set_option maxHeartbeats 1000000 in
theorem tincl_yes (p : Option Addr) (cap : Nat) (ss : List ByteArray) (c : Int) (w : World) (hc : ss.length ≤ cap) (hm : cap ≤ 9223372036854775807) (hr : Row w p ss) (h : inclB ss c = true) :
    Calls Tryz.prog 27 #[.slice p ss.length cap, .int .i64 c] w fun e w' => ∃ v, e = .returned (.tuple #[v, .int .i64 0]) ∧ Own w' w.heap.size v (Pl.path ss c.toNat) ∧ Below w.heap.size w w' := by
  obtain ⟨hok, i, rfl, hi⟩ := inclB_yes h
  obtain ⟨b, o, rfl⟩ := row_at hr (by omega)
  have hmay := may_any (some ⟨b, o, none⟩) cap ss w hr
  rw [hok] at hmay
  have hL := lpath_any ss.length b o cap ss i w (Nat.le_refl _) (okB_yes hok).1 (by omega) hm hr hi
  rw [Int.toNat_natCast]
  have hlen : ss.length ≤ 40 := (okB_yes hok).1
  clear h hr hok
  go_enter Tryz.func27, Tryz.ntmps27
  go_wp2_with fail
  refine hmay.mono ?_
  rintro e w1 ⟨rfl, rfl⟩
  go_wp2_with fail
  refine hL.mono ?_
  rintro e w2 ⟨v, rfl, ho, hb⟩
  have HO : Hid (Own w2 w1.heap.size v (Pl.path ss i)) := ho
  clear ho
  go_wp2_with fail
  go_ret2
  exact ⟨_, rfl, HO.out, hb⟩

set_option maxRecDepth 100000 in
set_option maxHeartbeats 1000000 in
theorem tincl_no (p : Option Addr) (cap : Nat) (ss : List ByteArray) (c : Int) (w : World) (hr : Row w p ss) (h : inclB ss c = false) :
    Calls Tryz.prog 27 #[.slice p ss.length cap, .int .i64 c] w fun e w' => e = .returned (.tuple #[.slice none 0 0, .int .i64 1]) ∧ w' = w := by
  have hmay := may_any p cap ss w hr
  have hl : ss.length ≤ 9223372036854775807 := hr.len
  rcases inclB_no h with hok | h0
  · rw [hok] at hmay
    go_enter Tryz.func27, Tryz.ntmps27
    go_wp2_with fail
    refine hmay.mono ?_
    rintro e w1 ⟨rfl, rfl⟩
    go_wp2_with fail
    go_ret2
    exact ⟨rfl, rfl⟩
  · cases hok : okB ss with
    | false =>
      rw [hok] at hmay
      go_enter Tryz.func27, Tryz.ntmps27
      go_wp2_with fail
      refine hmay.mono ?_
      rintro e w1 ⟨rfl, rfl⟩
      go_wp2_with fail
      go_ret2
      exact ⟨rfl, rfl⟩
    | true =>
      rw [hok] at hmay
      clear h hok hr
      by_cases h1 : c < 0
      · clear h0
        go_enter Tryz.func27, Tryz.ntmps27
        go_wp2_with fail
        refine hmay.mono ?_
        rintro e w1 ⟨rfl, rfl⟩
        go_wp2_with fail
        go_ret2
        exact ⟨rfl, rfl⟩
      · have h2 : (ss.length : Int) ≤ c := by omega
        clear h0
        go_enter Tryz.func27, Tryz.ntmps27
        go_wp2_with fail
        refine hmay.mono ?_
        rintro e w1 ⟨rfl, rfl⟩
        go_wp2_with fail
        go_ret2
        exact ⟨rfl, rfl⟩

set_option maxRecDepth 100000 in
set_option maxHeartbeats 1000000 in
theorem text_yes (p : Option Addr) (cap : Nat) (ss : List ByteArray) (c : Int) (w : World) (hc : ss.length ≤ cap) (hm : cap ≤ 9223372036854775807) (hr : Row w p ss) (h : extB ss c = true) :
    Calls Tryz.prog 31 #[.slice p ss.length cap, .int .i64 c] w fun e w' => ∃ v, e = .returned (.tuple #[v, .int .i64 0]) ∧ Own w' w.heap.size v (Pl.parts ss c.toNat true) ∧ Below w.heap.size w w' := by
  obtain ⟨hok, i, rfl, hi, hi2⟩ := extB_yes h
  obtain ⟨b, o, rfl⟩ := row_at hr (by omega)
  have hmay := may_any (some ⟨b, o, none⟩) cap ss w hr
  rw [hok] at hmay
  have hL := growth_any b o cap ss i w (okB_yes hok).1 (by omega) hm hr hi hi2
  rw [Int.toNat_natCast]
  have hlen : ss.length ≤ 40 := (okB_yes hok).1
  clear h hr hok
  go_enter Tryz.func31, Tryz.ntmps31
  go_wp2_with fail
  refine hmay.mono ?_
  rintro e w1 ⟨rfl, rfl⟩
  go_wp2_with fail
  refine hL.mono ?_
  rintro e w2 ⟨v, rfl, ho, hb⟩
  have HO : Hid (Own w2 w1.heap.size v (Pl.parts ss i true)) := ho
  clear ho
  go_wp2_with fail
  go_ret2
  exact ⟨_, rfl, HO.out, hb⟩

set_option maxRecDepth 100000 in
set_option maxHeartbeats 1000000 in
theorem text_no (p : Option Addr) (cap : Nat) (ss : List ByteArray) (c : Int) (w : World) (hr : Row w p ss) (h : extB ss c = false) :
    Calls Tryz.prog 31 #[.slice p ss.length cap, .int .i64 c] w fun e w' => e = .returned (.tuple #[.slice none 0 0, .int .i64 1]) ∧ w' = w := by
  have hmay := may_any p cap ss w hr
  have hl : ss.length ≤ 9223372036854775807 := hr.len
  rcases extB_no h with hok | h0
  · rw [hok] at hmay
    go_enter Tryz.func31, Tryz.ntmps31
    go_wp2_with fail
    refine hmay.mono ?_
    rintro e w1 ⟨rfl, rfl⟩
    go_wp2_with fail
    go_ret2
    exact ⟨rfl, rfl⟩
  · cases hok : okB ss with
    | false =>
      rw [hok] at hmay
      go_enter Tryz.func31, Tryz.ntmps31
      go_wp2_with fail
      refine hmay.mono ?_
      rintro e w1 ⟨rfl, rfl⟩
      go_wp2_with fail
      go_ret2
      exact ⟨rfl, rfl⟩
    | true =>
      rw [hok] at hmay
      clear h hok hr
      by_cases h1 : c < 1
      · clear h0
        go_enter Tryz.func31, Tryz.ntmps31
        go_wp2_with fail
        refine hmay.mono ?_
        rintro e w1 ⟨rfl, rfl⟩
        go_wp2_with fail
        go_ret2
        exact ⟨rfl, rfl⟩
      · have h2 : (ss.length : Int) < c := by omega
        clear h0
        go_enter Tryz.func31, Tryz.ntmps31
        go_wp2_with fail
        refine hmay.mono ?_
        rintro e w1 ⟨rfl, rfl⟩
        go_wp2_with fail
        go_ret2
        exact ⟨rfl, rfl⟩

set_option maxRecDepth 100000 in
set_option maxHeartbeats 1000000 in
theorem rincl_yes (p : Option Addr) (cap : Nat) (ss : List ByteArray) (c : Int) (w : World) (hc : ss.length ≤ cap) (hm : cap ≤ 9223372036854775807) (hr : Row w p ss) (h : inclB ss c = true) :
    Calls Tryz.prog 29 #[.slice p ss.length cap, .int .i64 c] w fun e w' => ∃ v, e = .returned (.tuple #[v, .int .i64 0]) ∧ Own w' w.heap.size v (Pl.path ss c.toNat) ∧ Below w.heap.size w w' := by
  obtain ⟨hok, i, rfl, hi⟩ := inclB_yes h
  obtain ⟨b, o, rfl⟩ := row_at hr (by omega)
  have hmay := rleaves_any (some ⟨b, o, none⟩) cap ss w hr
  rw [hok] at hmay
  have hL := rpath_any ss.length b o cap ss i w (Nat.le_refl _) (okB_yes hok).1 (okB_yes hok).2 (by omega) hm hr hi
  rw [Int.toNat_natCast]
  have hlen : ss.length ≤ 40 := (okB_yes hok).1
  clear h hr hok
  go_enter Tryz.func29, Tryz.ntmps29
  go_wp2_with fail
  refine hmay.mono ?_
  rintro e w1 ⟨rfl, rfl⟩
  go_wp2_with fail
  refine hL.mono ?_
  rintro e w2 ⟨v, rfl, ho, hb⟩
  have HO : Hid (Own w2 w1.heap.size v (Pl.path ss i)) := ho
  clear ho
  go_wp2_with fail
  go_ret2
  exact ⟨_, rfl, HO.out, hb⟩

set_option maxRecDepth 100000 in
set_option maxHeartbeats 1000000 in
theorem rincl_no (p : Option Addr) (cap : Nat) (ss : List ByteArray) (c : Int) (w : World) (hr : Row w p ss) (h : inclB ss c = false) :
    Calls Tryz.prog 29 #[.slice p ss.length cap, .int .i64 c] w fun e w' => e = .returned (.tuple #[.slice none 0 0, .int .i64 1]) ∧ w' = w := by
  have hmay := rleaves_any p cap ss w hr
  have hl : ss.length ≤ 9223372036854775807 := hr.len
  rcases inclB_no h with hok | h0
  · rw [hok] at hmay
    go_enter Tryz.func29, Tryz.ntmps29
    go_wp2_with fail
    refine hmay.mono ?_
    rintro e w1 ⟨rfl, rfl⟩
    go_wp2_with fail
    go_ret2
    exact ⟨rfl, rfl⟩
  · cases hok : okB ss with
    | false =>
      rw [hok] at hmay
      go_enter Tryz.func29, Tryz.ntmps29
      go_wp2_with fail
      refine hmay.mono ?_
      rintro e w1 ⟨rfl, rfl⟩
      go_wp2_with fail
      go_ret2
      exact ⟨rfl, rfl⟩
    | true =>
      rw [hok] at hmay
      clear h hok hr
      by_cases h1 : c < 0
      · clear h0
        go_enter Tryz.func29, Tryz.ntmps29
        go_wp2_with fail
        refine hmay.mono ?_
        rintro e w1 ⟨rfl, rfl⟩
        go_wp2_with fail
        go_ret2
        exact ⟨rfl, rfl⟩
      · have h2 : (ss.length : Int) ≤ c := by omega
        clear h0
        go_enter Tryz.func29, Tryz.ntmps29
        go_wp2_with fail
        refine hmay.mono ?_
        rintro e w1 ⟨rfl, rfl⟩
        go_wp2_with fail
        go_ret2
        exact ⟨rfl, rfl⟩

set_option maxRecDepth 100000 in
set_option maxHeartbeats 1000000 in
theorem rext_yes (p : Option Addr) (cap : Nat) (ss : List ByteArray) (c : Int) (w : World) (hc : ss.length ≤ cap) (hm : cap ≤ 9223372036854775807) (hr : Row w p ss) (h : extB ss c = true) :
    Calls Tryz.prog 32 #[.slice p ss.length cap, .int .i64 c] w fun e w' => ∃ v, e = .returned (.tuple #[v, .int .i64 0]) ∧ Own w' w.heap.size v (Pl.parts ss c.toNat true) ∧ Below w.heap.size w w' := by
  obtain ⟨hok, i, rfl, hi, hi2⟩ := extB_yes h
  obtain ⟨b, o, rfl⟩ := row_at hr (by omega)
  have hmay := rleaves_any (some ⟨b, o, none⟩) cap ss w hr
  rw [hok] at hmay
  have hL := rparts_any ss.length b o cap ss i true w (Nat.le_refl _) (okB_yes hok).1 (okB_yes hok).2 (by omega) hm hr hi hi2
  rw [Int.toNat_natCast]
  have hlen : ss.length ≤ 40 := (okB_yes hok).1
  clear h hr hok
  go_enter Tryz.func32, Tryz.ntmps32
  go_wp2_with fail
  refine hmay.mono ?_
  rintro e w1 ⟨rfl, rfl⟩
  go_wp2_with fail
  refine hL.mono ?_
  rintro e w2 ⟨v, rfl, ho, hb⟩
  have HO : Hid (Own w2 w1.heap.size v (Pl.parts ss i true)) := ho
  clear ho
  go_wp2_with fail
  go_ret2
  exact ⟨_, rfl, HO.out, hb⟩

set_option maxRecDepth 100000 in
set_option maxHeartbeats 1000000 in
theorem rext_no (p : Option Addr) (cap : Nat) (ss : List ByteArray) (c : Int) (w : World) (hr : Row w p ss) (h : extB ss c = false) :
    Calls Tryz.prog 32 #[.slice p ss.length cap, .int .i64 c] w fun e w' => e = .returned (.tuple #[.slice none 0 0, .int .i64 1]) ∧ w' = w := by
  have hmay := rleaves_any p cap ss w hr
  have hl : ss.length ≤ 9223372036854775807 := hr.len
  rcases extB_no h with hok | h0
  · rw [hok] at hmay
    go_enter Tryz.func32, Tryz.ntmps32
    go_wp2_with fail
    refine hmay.mono ?_
    rintro e w1 ⟨rfl, rfl⟩
    go_wp2_with fail
    go_ret2
    exact ⟨rfl, rfl⟩
  · cases hok : okB ss with
    | false =>
      rw [hok] at hmay
      go_enter Tryz.func32, Tryz.ntmps32
      go_wp2_with fail
      refine hmay.mono ?_
      rintro e w1 ⟨rfl, rfl⟩
      go_wp2_with fail
      go_ret2
      exact ⟨rfl, rfl⟩
    | true =>
      rw [hok] at hmay
      clear h hok hr
      by_cases h1 : c < 1
      · clear h0
        go_enter Tryz.func32, Tryz.ntmps32
        go_wp2_with fail
        refine hmay.mono ?_
        rintro e w1 ⟨rfl, rfl⟩
        go_wp2_with fail
        go_ret2
        exact ⟨rfl, rfl⟩
      · have h2 : (ss.length : Int) < c := by omega
        clear h0
        go_enter Tryz.func32, Tryz.ntmps32
        go_wp2_with fail
        refine hmay.mono ?_
        rintro e w1 ⟨rfl, rfl⟩
        go_wp2_with fail
        go_ret2
        exact ⟨rfl, rfl⟩

set_option maxRecDepth 100000 in
set_option maxHeartbeats 1000000 in
theorem same_rows (p1 p2 : Option Addr) (c1 c2 : Nat) (ss : List ByteArray) (w : World) (h1 : Row w p1 ss) (h2 : Row w p2 ss) :
    Calls Tryz.prog 30 #[.slice p1 ss.length c1, .slice p2 ss.length c2] w fun e w' => e = .returned (.bool true) ∧ ∃ n, w' = w.drewN n := by
  have hl : ss.length ≤ 9223372036854775807 := h1.len
  have HR1 : Hid (Row w p1 ss) := h1
  have HR2 : Hid (Row w p2 ss) := h2
  have hne : ((ss.length : Int) != (ss.length : Int)) = false := by simp
  clear h1 h2
  go_enter Tryz.func30, Tryz.ntmps30
  go_wp2_with fail
  go_loopw [5] (fun i wr => ∃ k n : Nat, k ≤ ss.length ∧ i = .int .i64 k ∧ wr = w.drewN n) (fun i _ => ss.length - (intOf i).toNat)
  case atStart => exact ⟨0, 0, by omega, rfl, rfl⟩
  case round =>
    obtain ⟨k, n, hk, rfl, rfl⟩ := hrel
    by_cases hlt : k < ss.length
    · rcases HR1.out.cell with h0 | ⟨b, o, hp1, _, hc1⟩
      · rw [h0] at hlt; exact absurd hlt (by simp)
      rcases HR2.out.cell with h0 | ⟨b', o', hp2, _, hc2⟩
      · rw [h0] at hlt; exact absurd hlt (by simp)
      have hx1 := hc1 k hlt
      have hx2 := hc2 k hlt
      subst hp1 hp2
      clear hc1 hc2 HR1 HR2
      generalize ss[k] = s at *
      have hlt' : (k : Int) < (ss.length : Int) := by omega
      go_wp2_with fail
      go_quiet (fail)
      go_wp2_with fail
      go_roundw
      case rel => exact ⟨k + 1, n + nq, by omega, by go_num, rfl⟩
      case measure => simp [intOf]; omega
    · go_wp2_with fail
      go_ret
      exact ⟨rfl, n, rfl⟩

/-- Rows of the law's own. -/
theorem Own.row {w : World} {B : Nat} {v : Value} {ss : List ByteArray} (h : Own w B v ss) (hs : ∀ s ∈ ss, s.size ≤ maxLen) (hl : ss.length ≤ maxLen) : ∃ p cap, v = .slice p ss.length cap ∧ Row w p ss := by
  rcases h.2 with ⟨hv, h0⟩ | ⟨g, cap, cur, hv, _⟩
  · obtain rfl : ss = [] := List.eq_nil_of_length_eq_zero h0
    exact ⟨none, 0, hv, row_nil w⟩
  · by_cases hne : ss = []
    · subst hne
      exact ⟨_, cap, hv, by simp, by simp, Or.inl rfl⟩
    · obtain ⟨g, cap, hv, _, _, _, hr⟩ := h.open hne hs hl
      exact ⟨_, cap, hv, hr⟩
theorem same_own (v1 v2 : Value) (B1 B2 : Nat) (ss : List ByteArray) (w : World) (h1 : Own w B1 v1 ss) (h2 : Own w B2 v2 ss) (hs : ∀ s ∈ ss, s.size ≤ maxLen) (hl : ss.length ≤ maxLen) :
    Calls Tryz.prog 30 #[v1, v2] w fun e w' => e = .returned (.bool true) ∧ Below w.heap.size w w' ∧ ∃ n, w' = w.drewN n := by
  obtain ⟨p1, c1, rfl, hr1⟩ := h1.row hs hl
  obtain ⟨p2, c2, rfl, hr2⟩ := h2.row hs hl
  exact (same_rows p1 p2 c1 c2 ss w hr1 hr2).mono fun e w' ⟨he, n, hw⟩ => ⟨he, by rw [hw]; exact below_drewN (Below.refl _ _) n, n, hw⟩

end Go.Proofs.YtkhnjipjbhcgdaaGreat
