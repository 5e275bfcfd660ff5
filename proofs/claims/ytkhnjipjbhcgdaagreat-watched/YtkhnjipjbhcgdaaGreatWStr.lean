import Derived.Test.YtkhnjipjbhcgdaaGreatOpen2
import Derived.Test.YtkhnjipjbhcgdaaGreatHand
/-
  WHAT IS HANDED OVER (nothing, or the texts with spare room behind), and looked at again: one contract for both.
-/
namespace Go.Proofs.YtkhnjipjbhcgdaaGreat
open Go.RowKit Hp

theorem rowOf_row2 (w : World) (D : Nat) (ss : List ByteArray) (hl : ss.length ≤ maxLen) (hs : ∀ s ∈ ss, s.size ≤ maxLen) (h : Box w D 9 (rowOf ss 8)) : Row w (some ⟨D, 0, none⟩) ss := by
  refine ⟨hl, hs, Or.inr ⟨D, 0, rfl, h.lt, fun i hi => ?_⟩⟩
  rw [Nat.zero_add, h.cell i]
  exact rowOf_at ss i hi
/-- What was handed over: nothing, or the texts with spare room behind. -/
def Hnd (w : World) (B : Nat) (p : Option Addr) (c : Nat) (q : Option Addr) (N : Nat) (ss : List ByteArray) : Prop :=
  (p = none ∧ c = 0 ∧ q = none ∧ N = 0 ∧ ss = []) ∨ ∃ g, q = some ⟨g, 0, none⟩ ∧ N = ss.length + 8 ∧ B ≤ g ∧ Box w g 9 (rowOf ss 8)
theorem Hnd.row {w : World} {B c N : Nat} {p q : Option Addr} {ss : List ByteArray} (h : Hnd w B p c q N ss) (hl : ss.length ≤ maxLen) (hs : ∀ s ∈ ss, s.size ≤ maxLen) : Row w q ss := by
  rcases h with ⟨_, _, rfl, _, rfl⟩ | ⟨g, rfl, _, _, hb⟩
  · exact row_nil w
  · exact rowOf_row2 w g ss hl hs hb
theorem Hnd.len {w : World} {B c N : Nat} {p q : Option Addr} {ss : List ByteArray} (h : Hnd w B p c q N ss) : ss.length ≤ N ∧ N ≤ ss.length + 8 := by
  rcases h with ⟨_, _, _, rfl, rfl⟩ | ⟨g, _, rfl, _⟩
  · exact ⟨by simp, by simp⟩
  · omega
theorem Hnd.grow {w w' : World} {B c N : Nat} {p q : Option Addr} {ss : List ByteArray} (h : Hnd w B p c q N ss) (hb : Below w.heap.size w w') : Hnd w' B p c q N ss := by
  rcases h with h | ⟨g, h1, h2, h3, h4⟩
  · exact Or.inl h
  · exact Or.inr ⟨g, h1, h2, h3, h4.grow hb h4.lt⟩
theorem Hnd.turn {X : Nat → Prop} {w w' : World} {B c N : Nat} {p q : Option Addr} {ss : List ByteArray} (h : Hnd w B p c q N ss) (hb : Turn X w w') (hX : ∀ g, q = some ⟨g, 0, none⟩ → ¬ X g) : Hnd w' B p c q N ss := by
  rcases h with h | ⟨g, h1, h2, h3, h4⟩
  · exact Or.inl h
  · exact Or.inr ⟨g, h1, h2, h3, h4.turn hb (hX g h1)⟩
theorem Hnd.lt {w : World} {B c N : Nat} {p q : Option Addr} {ss : List ByteArray} (h : Hnd w B p c q N ss) : ∀ g, q = some ⟨g, 0, none⟩ → B ≤ g ∧ g < w.heap.size := by
  intro g hg
  rcases h with ⟨_, _, h1, _⟩ | ⟨g', h1, h2, h3, h4⟩
  · rw [h1] at hg; cases hg
  · rw [h1] at hg
    simp only [Option.some.injEq, Addr.mk.injEq, and_true] at hg
    subst hg
    exact ⟨h3, h4.lt⟩
/-- A list that came in: nil, or within reach. -/
def Inc (p : Option Addr) (c : Nat) (ss : List ByteArray) : Prop := (p = none ∧ c = 0 ∧ ss = []) ∨ ((∃ a, p = some a) ∧ ss.length ≤ c ∧ c * 16 ≤ 140737488351232)
theorem Inc.len {p : Option Addr} {c : Nat} {ss : List ByteArray} (h : Inc p c ss) : ss.length ≤ c ∧ c ≤ 9223372036854775807 := by
  rcases h with ⟨_, rfl, rfl⟩ | ⟨_, h1, h2⟩
  · exact ⟨by simp, by omega⟩
  · omega
theorem handed_any (p : Option Addr) (c : Nat) (ss : List ByteArray) (w : World) (hr : Row w p ss) (hi : Inc p c ss) :
    Calls Tryz.prog 26 #[.slice p ss.length c] w fun e w' => ∃ q N, e = .returned (.slice q N N) ∧ Hnd w' w.heap.size p c q N ss ∧ Below w.heap.size w w' := by
  rcases hi with ⟨rfl, rfl, rfl⟩ | ⟨⟨a, rfl⟩, hc, hm⟩
  · exact (handed_nil w).mono fun e w' ⟨he, hw⟩ => ⟨none, 0, he, Or.inl ⟨rfl, rfl, rfl, rfl, rfl⟩, by rw [hw]; exact Below.refl _ _⟩
  · refine (handed_some a c ss w hr (by omega)).mono fun e w' ⟨he, hw⟩ => ⟨_, _, he, ?_, ?_⟩
    · rw [hw]
      exact Or.inr ⟨w.heap.size, rfl, rfl, Nat.le_refl _, Box.new w _ _⟩
    · rw [hw]
      exact (Below.refl _ _).alloc (Nat.le_refl _) _
theorem still_any (p : Option Addr) (c : Nat) (ss : List ByteArray) (B N : Nat) (q : Option Addr) (w : World) (hr : Row w p ss) (hi : Inc p c ss) (hq : Hnd w B p c q N ss) (hB : ∀ b o, ss ≠ [] → p = some ⟨b, o, none⟩ → b < B) :
    Calls Tryz.prog 28 #[.slice q N N, .slice p ss.length c] w fun e w' => e = .returned (.bool true) ∧ Turn (fun k => q = some ⟨k, 0, none⟩) w w' := by
  rcases hq with ⟨rfl, rfl, rfl, rfl, rfl⟩ | ⟨g, rfl, rfl, hg, hbox⟩
  · exact (still_nil w).mono fun e w' ⟨he, hw⟩ => ⟨he, by rw [hw]; exact Turn.refl _ _⟩
  · have hl : 16 * (ss.length + 8) ≤ 281474976710656 := by
      rcases hi with ⟨_, _, rfl⟩ | ⟨_, h1, h2⟩
      · simp
      · omega
    refine (still_some g p c ss w hr (fun b o hne he => ?_) hbox hl).mono fun e w' ⟨he, ho⟩ => ⟨he, ?_⟩
    · have := hB b o hne he
      omega
    · exact ⟨ho.os, ho.tape, ho.output, Nat.le_of_eq ho.size.symm, fun k hk hX => ho.block k (fun h => hX (by rw [h]))⟩

theorem IsRow.inc {w : World} {v : Value} {ss : List ByteArray} (h : IsRow w v ss) : ∃ p c, v = .slice p ss.length c ∧ Row w p ss ∧ Inc p c ss := by
  rcases h with ⟨rfl, rfl⟩ | ⟨a, cap, rfl, hc, hm, hr⟩
  · exact ⟨none, 0, rfl, row_nil w, Or.inl ⟨rfl, rfl, rfl⟩⟩
  · exact ⟨some a, cap, rfl, hr, Or.inr ⟨⟨a, rfl⟩, hc, hm⟩⟩
end Go.Proofs.YtkhnjipjbhcgdaaGreat

/-
  THE WALKS of treeheadlaw.strokes and treeheadlaw.full: a list's mark, and whether a list is full of it.
-/
namespace Go.Proofs.YtkhnjipjbhcgdaaGreat
open Go.RowKit Hp

/-- The k-th mark. -/
def strokeS : Nat → ByteArray
  | 0 => ⟨#[47]⟩
  | k + 1 => strokeS k ++ ⟨#[47]⟩
theorem strokeS_size (k : Nat) : (strokeS k).size = k + 1 := by
  induction k with
  | zero => rfl
  | succ k ih => rw [strokeS, ByteArray.size_append, ih]; rfl

set_option maxRecDepth 100000 in
set_option maxHeartbeats 1000000 in
theorem strokes_any (n : Nat) (w : World) (h : n ≤ 140737488351232) :
    Calls Tryz.prog 20 #[.int .i64 n] w fun e w' => e = .returned (.string (strokeS n)) ∧ w' = w := by
  go_enter Tryz.func20, Tryz.ntmps20
  go_wp2_with fail
  go_loop [3, 4] (fun s i => ∃ k : Nat, k ≤ n ∧ i = .int .i64 k ∧ s = .string (strokeS k)) (fun _ i => n - (intOf i).toNat)
  case atStart => exact ⟨0, by omega, rfl, rfl⟩
  case round =>
    obtain ⟨k, hk, rfl, rfl⟩ := hrel
    have hz := strokeS_size k
    by_cases hlt : k < n
    · have HS : Hid (strokeS (k + 1) = strokeS k ++ ⟨#[47]⟩) := rfl
      generalize strokeS k = S at *
      go_wp2_with fail
      go_round
      case rel => exact ⟨k + 1, by omega, by go_num, by rw [HS.out]⟩
      case measure => simp [intOf]; omega
    · have hkn : k = n := by omega
      subst hkn
      go_wp2_with fail
      go_ret
      exact ⟨rfl, rfl⟩

/-- A list that is full of s: its texts lie in a block of texts. -/
def Full (w : World) (v : Value) (s : ByteArray) : Prop :=
  ∃ p n cap, v = .slice p n cap ∧ n ≤ 1000 ∧ (n = 0 ∨ ∃ b cur, p = some ⟨b, 0, none⟩ ∧ w.heap[b]? = some (.cells cur 9 (0, 0)) ∧ ∀ i, i < n → cur[i]? = some (.string s))
theorem Full.turn {X : Nat → Prop} {w w' : World} {v : Value} {s : ByteArray} (h : Full w v s) (ht : Turn X w w') (hX : ∀ b cur, w.heap[b]? = some (.cells cur 9 (0, 0)) → ¬ X b) : Full w' v s := by
  obtain ⟨p, n, cap, hv, hn, h0 | ⟨b, cur, hp, hb, hc⟩⟩ := h
  · exact ⟨p, n, cap, hv, hn, Or.inl h0⟩
  · exact ⟨p, n, cap, hv, hn, Or.inr ⟨b, cur, hp, by rw [ht.block b (Array.getElem?_eq_some_iff.1 hb).1 (hX b cur hb)]; exact hb, hc⟩⟩
theorem Full.grow {w w' : World} {v : Value} {s : ByteArray} (h : Full w v s) (hb : Below w.heap.size w w') : Full w' v s := h.turn (X := fun _ => False) (Turn.of hb) (fun _ _ _ h => h)

set_option maxRecDepth 100000 in
set_option maxHeartbeats 1000000 in
theorem full_any (v : Value) (s : ByteArray) (w : World) (h : Full w v s) :
    Calls Tryz.prog 21 #[v, .string s] w fun e w' => e = .returned (.bool true) ∧ w' = w := by
  obtain ⟨p, n, cap, rfl, hn, hc⟩ := h
  have HC : Hid (∀ k, k < n → ∃ b, p = some ⟨b, 0, none⟩ ∧ w.cell? ⟨b, k, none⟩ = some (.string s)) := fun k hk => by
    rcases hc with h0 | ⟨b, cur, hp, hb, hh⟩
    · omega
    · exact ⟨b, hp, by rw [cell_of_row w b k cur _ (0, 0) hb]; exact hh k hk⟩
  clear hc
  go_enter Tryz.func21, Tryz.ntmps21
  go_wp2_with fail
  go_loop [5] (fun i => ∃ k : Nat, k ≤ n ∧ i = .int .i64 k) (fun i => n - (intOf i).toNat)
  case atStart => exact ⟨0, by omega, rfl⟩
  case round =>
    obtain ⟨k, hk, rfl⟩ := hrel
    by_cases hlt : k < n
    · obtain ⟨b, rfl, hck⟩ := HC.out k hlt
      go_wp2_with fail
      go_round
      case rel => exact ⟨k + 1, by omega, by go_num⟩
      case measure => simp [intOf]; omega
    · go_wp2_with fail
      go_ret
      exact ⟨rfl, rfl⟩
end Go.Proofs.YtkhnjipjbhcgdaaGreat
