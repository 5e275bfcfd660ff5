import Derived.WalkKit
import Derived.Test.YtkhnjipjbhcgdabRows
import Derived.WalkSpells
import Derived.WalkLawsBesides
/-
  THE PLAIN MATHEMATICS: numbers and sums of texts. It imports nothing of the translation.
-/
namespace Go.Proofs.Ytkhnjipjbhcgdab.Pl

/-- One byte more. -/
def step (n : Nat) (b : UInt8) : Nat := (n * 263 + b.toNat + 1) % 65521
/-- The number of a text. -/
def num (l : List UInt8) : Nat := l.foldl step 1
/-- The texts one behind the other. -/
def cat : List ByteArray → List UInt8
  | [] => []
  | s :: r => s.data.toList ++ cat r
/-- A digit. -/
def hex (n : Nat) : UInt8 := if n % 16 < 10 then UInt8.ofNat (48 + n % 16) else UInt8.ofNat (87 + n % 16)
/-- A number in four digits. -/
def dig4 (n : Nat) : List UInt8 := [hex (n / 4096), hex (n / 256), hex (n / 16), hex n]
/-- The sum of a text. -/
def sum (l : List UInt8) : ByteArray := ⟨(dig4 (num l)).toArray⟩

theorem step_lt (n : Nat) (b : UInt8) : step n b < 65521 := by unfold step; omega
theorem num_lt (l : List UInt8) : num l < 65521 := by
  unfold num
  have h : ∀ (l : List UInt8) (n : Nat), n < 65521 → l.foldl step n < 65521 := by
    intro l
    induction l with
    | nil => intro n h; exact h
    | cons b r ih => intro n _; exact ih _ (step_lt n b)
  exact h l 1 (by omega)
theorem num_snoc (l : List UInt8) (b : UInt8) : num (l ++ [b]) = (num l * 263 + b.toNat + 1) % 65521 := by
  unfold num
  rw [List.foldl_append]
  rfl
theorem cat_append (a b : List ByteArray) : cat (a ++ b) = cat a ++ cat b := by
  induction a with
  | nil => rfl
  | cons s r ih => simp only [List.cons_append, cat, ih, List.append_assoc]
theorem take_snoc (s : ByteArray) (k : Nat) (h : k < s.size) : s.data.toList.take (k + 1) = s.data.toList.take k ++ [s[k]] := by
  rw [List.take_succ_eq_append_getElem (by simpa using h)]; rfl
theorem take_all (s : ByteArray) : s.data.toList.take s.size = s.data.toList := List.take_of_length_le (by simp)
theorem cat_take (ss : List ByteArray) (k : Nat) (h : k < ss.length) : cat (ss.take (k + 1)) = cat (ss.take k) ++ ss[k].data.toList := by
  rw [List.take_succ_eq_append_getElem h, cat_append]
  simp [cat]
end Go.Proofs.Ytkhnjipjbhcgdab.Pl

/-
  THE WALKS of sums.Number and treeheadref.Number.
-/
namespace Go.Proofs.Ytkhnjipjbhcgdab
open Go.RowKit

theorem ret_int {k : IntKind} {a b : Int} (h : a = b) : Ending.returned (.int k a) = .returned (.int k b) := by rw [h]
theorem val_int {k : IntKind} {a b : Int} (h : a = b) : Value.int k a = .int k b := by rw [h]

theorem num_step (l : List UInt8) (s : ByteArray) (j : Nat) (h : j < s.size) :
    (Pl.num (l ++ s.data.toList.take (j + 1)) : Int) = ((Pl.num (l ++ s.data.toList.take j) : Int) * 263 + (s[j].toNat : Int) + 1) % 65521 := by
  rw [Pl.take_snoc s j h, ← List.append_assoc, Pl.num_snoc]
  omega

/-- THE TEXTS ss LIE BEHIND THE SLICE's ADDRESS p: nothing is asked of the address where there are none. -/
structure Row (w : World) (p : Option Addr) (ss : List ByteArray) : Prop where
  len : ss.length ≤ maxLen
  size : ∀ s ∈ ss, s.size ≤ maxLen
  cell : ss = [] ∨ ∃ b o, p = some ⟨b, o, none⟩ ∧ b < w.heap.size ∧ ∀ i (h : i < ss.length), w.cell? ⟨b, o + i, none⟩ = some (.string ss[i])

/-- A []string: nil, or so many texts within the reach of what can be read. -/
def IsRow (w : World) (v : Value) (ss : List ByteArray) : Prop :=
  (v = .slice none 0 0 ∧ ss = []) ∨ ∃ a cap, v = .slice (some a) ss.length cap ∧ ss.length ≤ cap ∧ cap * 16 ≤ 140737488351232 ∧ Row w (some a) ss

set_option maxRecDepth 100000 in
set_option maxHeartbeats 400000 in
theorem number_none (p : Option Addr) (cap : Nat) (w : World) :
    Calls Try.prog 52 #[.slice p 0 cap] w fun e w' => e = .returned (.int .i64 1) ∧ w' = w := by
  go_enter Try.func52, Try.ntmps52
  go_wp2
  go_loop [3, 9] (fun n i => i = .int .i64 0 ∧ n = .int .i64 1) (fun _ _ => 0)
  case atStart => exact ⟨rfl, rfl⟩
  case round =>
    obtain ⟨rfl, rfl⟩ := hrel
    go_wp2
    go_ret
    exact ⟨rfl, rfl⟩

set_option maxRecDepth 100000 in
set_option maxHeartbeats 1000000 in
theorem number_some (b o cap : Nat) (ss : List ByteArray) (w : World) (hl : ss.length ≤ maxLen) (hs : ∀ s ∈ ss, s.size ≤ maxLen)
    (hc : ∀ i (h : i < ss.length), w.cell? ⟨b, o + i, none⟩ = some (.string ss[i])) :
    Calls Try.prog 52 #[.slice (some ⟨b, o, none⟩) ss.length cap] w fun e w' => e = .returned (.int .i64 (Pl.num (Pl.cat ss))) ∧ w' = w := by
  unfold maxLen at hl hs
  go_enter Try.func52, Try.ntmps52
  go_wp2
  go_loop [3, 9] (fun n i => ∃ k : Nat, k ≤ ss.length ∧ i = .int .i64 k ∧ n = .int .i64 (Pl.num (Pl.cat (ss.take k)) : Nat)) (fun _ i => ss.length - (intOf i).toNat)
  case atStart => exact ⟨0, Nat.zero_le _, rfl, rfl⟩
  case round =>
    obtain ⟨k, hk, rfl, rfl⟩ := hrel
    by_cases hlt : k < ss.length
    · have hcell := hc k hlt
      have hsz := hs ss[k] (List.getElem_mem _)
      have HC : Hid _ := Pl.cat_take ss k hlt
      have hn := Pl.num_lt (Pl.cat (ss.take k))
      generalize ss[k] = s at *
      generalize Pl.cat (ss.take k) = L at *
      clear hs hc
      go_wp2
      go_loop [3, 15] (fun n i => ∃ j : Nat, j ≤ s.size ∧ i = .int .i64 j ∧ n = .int .i64 (Pl.num (L ++ s.data.toList.take j) : Nat)) (fun _ i => s.size - (intOf i).toNat)
      case atStart => exact ⟨0, Nat.zero_le _, rfl, by simp⟩
      case round =>
        obtain ⟨j, hj, rfl, rfl⟩ := hrel
        have hn2 := Pl.num_lt (L ++ s.data.toList.take j)
        by_cases hlt2 : j < s.size
        · have HS : Hid _ := num_step L s j hlt2
          have hb := s[j].toNat_lt
          generalize Pl.num (L ++ s.data.toList.take j) = N at *
          go_wp2
          all_goals
            go_round
            case rel => exact ⟨j + 1, by omega, by go_num, by rw [HS.out]⟩
            case measure => simp [intOf]; omega
        · have HE : Hid (j = s.size) := show j = s.size by omega
          go_wp2
          go_round
          case rel => exact ⟨k + 1, by omega, by go_num, by rw [HC.out, HE.out, Pl.take_all]⟩
          case measure => simp [intOf]; omega
    · go_wp2
      go_ret
      exact ⟨ret_int (by rw [List.take_of_length_le (by omega)]), rfl⟩

theorem number_any (p : Option Addr) (cap : Nat) (ss : List ByteArray) (w : World) (hr : Row w p ss) :
    Calls Try.prog 52 #[.slice p ss.length cap] w fun e w' => e = .returned (.int .i64 (Pl.num (Pl.cat ss))) ∧ w' = w := by
  rcases hr.cell with rfl | ⟨b, o, rfl, _, hc⟩
  · exact number_none p cap w
  · exact number_some b o cap ss w hr.len hr.size hc

end Go.Proofs.Ytkhnjipjbhcgdab
