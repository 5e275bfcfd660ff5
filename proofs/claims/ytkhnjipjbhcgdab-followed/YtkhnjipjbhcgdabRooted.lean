import Derived.Test.YtkhnjipjbhcgdabKLeaves
/-
  THE WALK of treeheadkeep.Rooted.
-/
namespace Go.Proofs.Ytkhnjipjbhcgdab
open Go.RowKit

theorem le_max {n : Nat} (h : n ≤ 40) : n ≤ maxLen := Nat.le_trans h (by decide)
def moreB : ByteArray := ⟨#[109, 111, 114, 101]⟩
/-- How long a slice is. -/
def lenOfV : Value → Nat
  | .slice _ n _ => n
  | _ => 0

theorem sum_to (p : Option Addr) (cap : Nat) (ss : List ByteArray) (c : ByteArray) (w : World) (hr : Row w p ss) (hc : Pl.sum (Pl.cat ss) = c) :
    Calls Try.prog 9 #[.slice p ss.length cap] w fun e w' => e = .returned (.string c) ∧ Below w.heap.size w w' := by
  subst hc
  exact sum_any p cap ss w hr
theorem troot_to (p : Option Addr) (cap n : Nat) (ss : List ByteArray) (r : ByteArray) (w : World) (hn : ss.length = n) (hc : n ≤ cap) (hm : cap ≤ 9223372036854775807) (hr : Row w p ss) (h40 : n ≤ 40) (h30 : ∀ s ∈ ss, s.size ≤ 30) (he : Pl.root ss = r) :
    Calls Try.prog 24 #[.slice p n cap] w fun e w' => e = .returned (.tuple #[.string r, .int .i64 0]) ∧ Below w.heap.size w w' := by
  subst hn he
  have h := troot_any p cap ss w hc hm hr
  rwa [rootAns_yes (okB_mk h40 h30)] at h

/-- What is left of the law, once the row is long enough. -/
structure Rootable (L : List ByteArray) : Prop where
  lo : 32 ≤ L.length
  hi : L.length ≤ 40
  size : ∀ s ∈ L, s.size ≤ 30

theorem pow_cases (q : Nat) (h : q < 5) : 2 ^ q = 1 ∨ 2 ^ q = 2 ∨ 2 ^ q = 4 ∨ 2 ^ q = 8 ∨ 2 ^ q = 16 ∨ 2 ^ q = 32 := by
  have : q = 0 ∨ q = 1 ∨ q = 2 ∨ q = 3 ∨ q = 4 := by omega
  rcases this with rfl | rfl | rfl | rfl | rfl <;> simp

theorem node_eq (L : List ByteArray) (k n : Nat) (hk : k = 1 ∨ k = 2 ∨ k = 4 ∨ k = 8 ∨ k = 16 ∨ k = 32) (h1 : k < n) (h2 : n ≤ 2 * k) (hn : n ≤ L.length) :
    Pl.sum (78 :: ((Pl.root (L.take k)).data.toList ++ (Pl.root ((L.take n).drop k)).data.toList)) = Pl.root (L.take n) := by
  have e : (L.take n).length = n := by rw [List.length_take]; omega
  have h := Pl.root_more (L.take n) (by omega)
  rw [e, Pl.half_of n k hk h1 h2, List.take_take, Nat.min_eq_left (by omega)] at h
  exact h.symm

end Go.Proofs.Ytkhnjipjbhcgdab
