import Derived.WalkKit
import Derived.Test.YtkhnjipjbhcgdaaGreatRows
import Derived.WalkSpells
import Derived.WalkLawsBesides
import Derived.Handy
import Derived.BigQuiet
import Derived.Laws.IdiomStrings
/-
  THE PLAIN MATHEMATICS: numbers and sums of texts. It imports nothing of the translation.
-/
namespace Go.Proofs.YtkhnjipjbhcgdaaGreat.Pl

/-- One byte more. -/
def step (n : Nat) (b : UInt8) : Nat := (n * 263 + b.toNat + 1) % 65521
/-- The number of a text. -/
def num (l : List UInt8) : Nat := l.foldl step 1
/-- The texts one behind the other. -/
def cat : List ByteArray → List UInt8
  | [] => []
  | s :: r => s.data.toList ++ cat r
/-- A digit. -/
def hex (n : Nat) : UInt8 := if n % 16 < 10 then UInt8.ofNat (48 + n % 16) else UInt8.ofNat (87 + n % 16)
/-- A number in four digits. -/
def dig4 (n : Nat) : List UInt8 := [hex (n / 4096), hex (n / 256), hex (n / 16), hex n]
/-- The sum of a text. -/
def sum (l : List UInt8) : ByteArray := ⟨(dig4 (num l)).toArray⟩

theorem step_lt (n : Nat) (b : UInt8) : step n b < 65521 := by unfold step; omega
theorem num_lt (l : List UInt8) : num l < 65521 := by
  unfold num
  have h : ∀ (l : List UInt8) (n : Nat), n < 65521 → l.foldl step n < 65521 := by
    intro l
    induction l with
    | nil => intro n h; exact h
    | cons b r ih => intro n _; exact ih _ (step_lt n b)
  exact h l 1 (by omega)
theorem num_snoc (l : List UInt8) (b : UInt8) : num (l ++ [b]) = (num l * 263 + b.toNat + 1) % 65521 := by
  unfold num
  rw [List.foldl_append]
  rfl
theorem cat_append (a b : List ByteArray) : cat (a ++ b) = cat a ++ cat b := by
  induction a with
  | nil => rfl
  | cons s r ih => simp only [List.cons_append, cat, ih, List.append_assoc]
theorem take_snoc (s : ByteArray) (k : Nat) (h : k < s.size) : s.data.toList.take (k + 1) = s.data.toList.take k ++ [s[k]] := by
  rw [List.take_succ_eq_append_getElem (by simpa using h)]; rfl
theorem take_all (s : ByteArray) : s.data.toList.take s.size = s.data.toList := List.take_of_length_le (by simp)
theorem cat_take (ss : List ByteArray) (k : Nat) (h : k < ss.length) : cat (ss.take (k + 1)) = cat (ss.take k) ++ ss[k].data.toList := by
  rw [List.take_succ_eq_append_getElem h, cat_append]
  simp [cat]
end Go.Proofs.YtkhnjipjbhcgdaaGreat.Pl

/-
  THE WALKS of sums.Number and treeheadref.Number.
-/
namespace Go.Proofs.YtkhnjipjbhcgdaaGreat
open Go.RowKit

theorem ret_int {k : IntKind} {a b : Int} (h : a = b) : Ending.returned (.int k a) = .returned (.int k b) := by rw [h]
theorem val_int {k : IntKind} {a b : Int} (h : a = b) : Value.int k a = .int k b := by rw [h]

theorem num_step (l : List UInt8) (s : ByteArray) (j : Nat) (h : j < s.size) :
    (Pl.num (l ++ s.data.toList.take (j + 1)) : Int) = ((Pl.num (l ++ s.data.toList.take j) : Int) * 263 + (s[j].toNat : Int) + 1) % 65521 := by
  rw [Pl.take_snoc s j h, ← List.append_assoc, Pl.num_snoc]
  omega

set_option maxRecDepth 100000 in
set_option maxHeartbeats 400000 in
theorem rnumber_any (s : ByteArray) (w : World) (hs : s.size ≤ maxLen) :
    Calls Tryz.prog 45 #[.string s] w fun e w' => e = .returned (.int .i64 (Pl.num s.data.toList)) ∧ w' = w := by
  unfold maxLen at hs
  go_enter Tryz.func45, Tryz.ntmps45
  go_wp2
  go_loop [3, 4] (fun n i => ∃ k : Nat, k ≤ s.size ∧ i = .int .i64 k ∧ n = .int .i64 (Pl.num ([] ++ s.data.toList.take k) : Nat)) (fun _ i => s.size - (intOf i).toNat)
  case atStart => exact ⟨0, Nat.zero_le _, rfl, rfl⟩
  case round =>
    obtain ⟨k, hk, rfl, rfl⟩ := hrel
    have hn := Pl.num_lt ([] ++ s.data.toList.take k)
    by_cases hlt : k < s.size
    · have HS : Hid _ := num_step [] s k hlt
      have hb := s[k].toNat_lt
      generalize Pl.num ([] ++ s.data.toList.take k) = N at *
      go_wp2
      all_goals
        go_round
        case rel => exact ⟨k + 1, by omega, by go_num, by rw [HS.out]; apply val_int; omega⟩
        case measure => simp [intOf]; omega
    · go_wp2
      go_ret
      exact ⟨ret_int (by rw [List.take_of_length_le (by simp; omega)]), rfl⟩

/-- THE TEXTS ss LIE BEHIND THE SLICE's ADDRESS p: nothing is asked of the address where there are none. -/
structure Row (w : World) (p : Option Addr) (ss : List ByteArray) : Prop where
  len : ss.length ≤ maxLen
  size : ∀ s ∈ ss, s.size ≤ maxLen
  cell : ss = [] ∨ ∃ b o, p = some ⟨b, o, none⟩ ∧ b < w.heap.size ∧ ∀ i (h : i < ss.length), w.cell? ⟨b, o + i, none⟩ = some (.string ss[i])

/-- A []string: nil, or so many texts within the reach of what can be read. -/
def IsRow (w : World) (v : Value) (ss : List ByteArray) : Prop :=
  (v = .slice none 0 0 ∧ ss = []) ∨ ∃ a cap, v = .slice (some a) ss.length cap ∧ ss.length ≤ cap ∧ cap * 16 ≤ 140737488351232 ∧ Row w (some a) ss

set_option maxRecDepth 100000 in
set_option maxHeartbeats 400000 in
theorem number_none (p : Option Addr) (cap : Nat) (w : World) :
    Calls Tryz.prog 83 #[.slice p 0 cap] w fun e w' => e = .returned (.int .i64 1) ∧ w' = w := by
  go_enter Tryz.func83, Tryz.ntmps83
  go_wp2
  go_loop [3, 9] (fun n i => i = .int .i64 0 ∧ n = .int .i64 1) (fun _ _ => 0)
  case atStart => exact ⟨rfl, rfl⟩
  case round =>
    obtain ⟨rfl, rfl⟩ := hrel
    go_wp2
    go_ret
    exact ⟨rfl, rfl⟩

set_option maxRecDepth 100000 in
set_option maxHeartbeats 1000000 in
theorem number_some (b o cap : Nat) (ss : List ByteArray) (w : World) (hl : ss.length ≤ maxLen) (hs : ∀ s ∈ ss, s.size ≤ maxLen)
    (hc : ∀ i (h : i < ss.length), w.cell? ⟨b, o + i, none⟩ = some (.string ss[i])) :
    Calls Tryz.prog 83 #[.slice (some ⟨b, o, none⟩) ss.length cap] w fun e w' => e = .returned (.int .i64 (Pl.num (Pl.cat ss))) ∧ w' = w := by
  unfold maxLen at hl hs
  go_enter Tryz.func83, Tryz.ntmps83
  go_wp2
  go_loop [3, 9] (fun n i => ∃ k : Nat, k ≤ ss.length ∧ i = .int .i64 k ∧ n = .int .i64 (Pl.num (Pl.cat (ss.take k)) : Nat)) (fun _ i => ss.length - (intOf i).toNat)
  case atStart => exact ⟨0, Nat.zero_le _, rfl, rfl⟩
  case round =>
    obtain ⟨k, hk, rfl, rfl⟩ := hrel
    by_cases hlt : k < ss.length
    · have hcell := hc k hlt
      have hsz := hs ss[k] (List.getElem_mem _)
      have HC : Hid _ := Pl.cat_take ss k hlt
      have hn := Pl.num_lt (Pl.cat (ss.take k))
      generalize ss[k] = s at *
      generalize Pl.cat (ss.take k) = L at *
      clear hs hc
      go_wp2
      go_loop [3, 15] (fun n i => ∃ j : Nat, j ≤ s.size ∧ i = .int .i64 j ∧ n = .int .i64 (Pl.num (L ++ s.data.toList.take j) : Nat)) (fun _ i => s.size - (intOf i).toNat)
      case atStart => exact ⟨0, Nat.zero_le _, rfl, by simp⟩
      case round =>
        obtain ⟨j, hj, rfl, rfl⟩ := hrel
        have hn2 := Pl.num_lt (L ++ s.data.toList.take j)
        by_cases hlt2 : j < s.size
        · have HS : Hid _ := num_step L s j hlt2
          have hb := s[j].toNat_lt
          generalize Pl.num (L ++ s.data.toList.take j) = N at *
          go_wp2
          all_goals
            go_round
            case rel => exact ⟨j + 1, by omega, by go_num, by rw [HS.out]⟩
            case measure => simp [intOf]; omega
        · have HE : Hid (j = s.size) := show j = s.size by omega
          go_wp2
          go_round
          case rel => exact ⟨k + 1, by omega, by go_num, by rw [HC.out, HE.out, Pl.take_all]⟩
          case measure => simp [intOf]; omega
    · go_wp2
      go_ret
      exact ⟨ret_int (by rw [List.take_of_length_le (by omega)]), rfl⟩

theorem number_any (p : Option Addr) (cap : Nat) (ss : List ByteArray) (w : World) (hr : Row w p ss) :
    Calls Tryz.prog 83 #[.slice p ss.length cap] w fun e w' => e = .returned (.int .i64 (Pl.num (Pl.cat ss))) ∧ w' = w := by
  rcases hr.cell with rfl | ⟨b, o, rfl, _, hc⟩
  · exact number_none p cap w
  · exact number_some b o cap ss w hr.len hr.size hc

end Go.Proofs.YtkhnjipjbhcgdaaGreat

/-
  THE WALKS of sums.written, sums.Of, treehead.Sum, treeheadref.Sum.
-/
namespace Go.Proofs.YtkhnjipjbhcgdaaGreat
open Go.RowKit

theorem four_bytes (b1 b2 b3 b4 : UInt8) (w : World) :
    (convert 87 9 (.slice (some ⟨w.heap.size, 0, none⟩) 4 4)).run Tryz.prog (w.alloc (.cells #[.int .u8 b1.toNat, .int .u8 b2.toNat, .int .u8 b3.toNat, .int .u8 b4.toNat] 120)) =
      .ok (.string ⟨#[b1, b2, b3, b4]⟩) (w.alloc (.cells #[.int .u8 b1.toNat, .int .u8 b2.toNat, .int .u8 b3.toNat, .int .u8 b4.toNat] 120)) := by
  have h := run_convert_bytes_back (P := Tryz.prog) (w.alloc (.cells #[.int .u8 b1.toNat, .int .u8 b2.toNat, .int .u8 b3.toNat, .int .u8 b4.toNat] 120)) 87 9 5 ⟨w.heap.size, 0, none⟩ 4 [b1, b2, b3, b4] Tryz.underlying87 Tryz.underlying5 Tryz.underlying9 (by
    intro j hj
    have hadd : (⟨w.heap.size, 0, none⟩ : Addr).add j = ⟨w.heap.size, j, none⟩ := by unfold Addr.add; split <;> simp_all
    rw [hadd, World.cell?_alloc_mark]
    match j, hj with
    | 0, _ => rfl
    | 1, _ => rfl
    | 2, _ => rfl
    | 3, _ => rfl)
  exact h

def digits : ByteArray := ⟨#[48, 49, 50, 51, 52, 53, 54, 55, 56, 57, 97, 98, 99, 100, 101, 102]⟩
theorem hex_at (n : Nat) (h : n % 16 < digits.size) : digits[n % 16] = Pl.hex n := by
  have hk : ∀ k : Nat, (hk : k < 16) → ∀ h : k < digits.size, digits[k]'h = (if k < 10 then UInt8.ofNat (48 + k) else UInt8.ofNat (87 + k)) := by
    decide
  unfold Pl.hex
  exact hk (n % 16) (by omega) h

theorem ext_at (k : Nat) (h : k < 16) : digits.extract k (k + 1) = ⟨#[Pl.hex k]⟩ := by
  have hk : ∀ k : Fin 16, digits.extract k.val (k.val + 1) = ⟨#[Pl.hex k.val]⟩ := by decide +kernel
  exact hk ⟨k, h⟩
theorem hex_mod (n : Nat) : Pl.hex (n % 16) = Pl.hex n := by unfold Pl.hex; rw [Nat.mod_mod]
theorem dig_cat (n : Nat) (h : n < 65536) : digits.extract (n / 4096) (n / 4096 + 1) ++ digits.extract (n / 256 % 16) (n / 256 % 16 + 1) ++ digits.extract (n / 16 % 16) (n / 16 % 16 + 1) ++ digits.extract (n % 16) (n % 16 + 1) = ⟨(Pl.dig4 n).toArray⟩ := by
  rw [ext_at _ (by omega), ext_at _ (by omega), ext_at _ (by omega), ext_at _ (by omega), hex_mod, hex_mod, hex_mod]
  apply ByteArray.ext
  simp [ByteArray.data_append, Pl.dig4]

set_option maxRecDepth 100000 in
set_option maxHeartbeats 400000 in
theorem written_any (n : Nat) (w : World) (hn : n < 65536) :
    Calls Tryz.prog 82 #[.int .i64 n] w fun e w' => e = .returned (.string ⟨(Pl.dig4 n).toArray⟩) ∧ Below w.heap.size w w' := by
  have hcv := four_bytes
  go_enter Tryz.func82, Tryz.ntmps82
  go_wp2
  refine wp_loop_rounds 5 ?_
  rw [rounds_succ]; go_wp2
  rw [rounds_succ]; go_wp2
  rw [rounds_succ]; go_wp2
  rw [rounds_succ]; go_wp2
  rw [rounds_succ]; go_wp2
  go_ret
  refine ⟨?_, (Below.refl _ _).alloc (Nat.le_refl _) _⟩
  have hd : ∀ k : Nat, k % 16 < digits.size := fun k => Nat.mod_lt _ (by decide)
  have hx : Pl.dig4 n = [digits[n / 16 / 16 / 16 % 16]'(hd _), digits[n / 16 / 16 % 16]'(hd _), digits[n / 16 % 16]'(hd _), digits[n % 16]'(hd _)] := by
    rw [hex_at _ (hd _), hex_at _ (hd _), hex_at _ (hd _), hex_at _ (hd _)]
    simp only [Nat.div_div_eq_div_mul]
    rfl
  rw [hx]
  rfl

set_option maxRecDepth 100000 in
set_option maxHeartbeats 400000 in
theorem of_any (p : Option Addr) (cap : Nat) (ss : List ByteArray) (w : World) (hr : Row w p ss) :
    Calls Tryz.prog 73 #[.slice p ss.length cap] w fun e w' => e = .returned (.string (Pl.sum (Pl.cat ss))) ∧ Below w.heap.size w w' := by
  have hn := Pl.num_lt (Pl.cat ss)
  go_enter Tryz.func73, Tryz.ntmps73
  go_wp2_with (first | (go_at_call 83; refine (number_any _ _ _ _ hr).mono ?_; rintro e w' ⟨rfl, rfl⟩) | (go_at_call 82; refine (written_any _ _ (by omega)).mono ?_; rintro e w1 ⟨rfl, hb⟩))
  go_ret
  exact ⟨rfl, hb⟩

set_option maxRecDepth 100000 in
set_option maxHeartbeats 400000 in
theorem rsum_any (s : ByteArray) (w : World) (hs : s.size ≤ maxLen) :
    Calls Tryz.prog 24 #[.string s] w fun e w' => e = .returned (.string (Pl.sum s.data.toList)) ∧ ∃ n, w' = w.drewN n := by
  have hn := Pl.num_lt s.data.toList
  go_enter Tryz.func24, Tryz.ntmps24
  go_wp2_with (go_at_call 45; refine (rnumber_any _ _ hs).mono ?_; rintro e w' ⟨rfl, rfl⟩)
  go_quiet (fail)
  go_wp2
  go_ret
  exact ⟨congrArg (fun b => Ending.returned (.string b)) (dig_cat (Pl.num s.data.toList) (by omega)), nq, rfl⟩

end Go.Proofs.YtkhnjipjbhcgdaaGreat

/-
  THE PLAIN MATHEMATICS: halves and roots.
-/
namespace Go.Proofs.YtkhnjipjbhcgdaaGreat.Pl

/-- The greatest power of two below n (n from 2 to 64). -/
def half (n : Nat) : Nat := if n ≤ 2 then 1 else if n ≤ 4 then 2 else if n ≤ 8 then 4 else if n ≤ 16 then 8 else if n ≤ 32 then 16 else 32
theorem half_pos (n : Nat) : 0 < half n := by unfold half; split <;> (try split) <;> (try split) <;> (try split) <;> (try split) <;> omega
theorem half_lt (n : Nat) (h : 2 ≤ n) : half n < n := by unfold half; split <;> (try split) <;> (try split) <;> (try split) <;> (try split) <;> omega
theorem half_of (n k : Nat) (hk : k = 1 ∨ k = 2 ∨ k = 4 ∨ k = 8 ∨ k = 16 ∨ k = 32) (h1 : k < n) (h2 : n ≤ 2 * k) : half n = k := by
  unfold half
  rcases hk with rfl | rfl | rfl | rfl | rfl | rfl <;> (split <;> (try split) <;> (try split) <;> (try split) <;> (try split) <;> omega)

/-- The root of a row, in at most so many steps. -/
def rootF : Nat → List ByteArray → ByteArray
  | 0, _ => sum [69]
  | f + 1, ss =>
    if ss.length = 0 then sum [69]
    else if ss.length = 1 then sum (76 :: cat ss)
    else sum (78 :: ((rootF f (ss.take (half ss.length))).data.toList ++ (rootF f (ss.drop (half ss.length))).data.toList))
/-- The root of a row. -/
def root (ss : List ByteArray) : ByteArray := rootF ss.length ss
theorem rootF_eq : ∀ (f : Nat) (ss : List ByteArray), ss.length ≤ f → rootF f ss = root ss := by
  intro f
  induction f using Nat.strongRecOn with
  | ind f ih =>
    intro ss h
    unfold root
    match f, hss : ss.length with
    | 0, 0 => rfl
    | 0, n + 1 => omega
    | f + 1, 0 => simp [rootF, hss]
    | f + 1, n + 1 =>
      simp only [rootF, hss, Nat.succ_eq_add_one]
      by_cases h1 : n + 1 = 1
      · simp [h1]
      · have hp := half_pos (n + 1)
        have hl := half_lt (n + 1) (by omega)
        have e1 : (ss.take (half (n + 1))).length = half (n + 1) := by rw [List.length_take]; omega
        have e2 : (ss.drop (half (n + 1))).length = n + 1 - half (n + 1) := by rw [List.length_drop]; omega
        rw [ih f (by omega) _ (by omega), ih f (by omega) _ (by omega), ih n (by omega) _ (by omega), ih n (by omega) _ (by omega)]
theorem root_zero : root [] = sum [69] := rfl
theorem root_one (ss : List ByteArray) (h : ss.length = 1) : root ss = sum (76 :: cat ss) := by
  unfold root
  rw [h]
  simp [rootF, h]
theorem root_more (ss : List ByteArray) (h : 2 ≤ ss.length) : root ss = sum (78 :: ((root (ss.take (half ss.length))).data.toList ++ (root (ss.drop (half ss.length))).data.toList)) := by
  have hp := half_pos ss.length
  have hl := half_lt ss.length h
  obtain ⟨n, hn⟩ : ∃ n, ss.length = n + 2 := ⟨ss.length - 2, by omega⟩
  have e1 : (ss.take (half ss.length)).length = half ss.length := by rw [List.length_take]; omega
  have e2 : (ss.drop (half ss.length)).length = ss.length - half ss.length := by rw [List.length_drop]
  rw [← rootF_eq (n + 1) (ss.take (half ss.length)) (by omega), ← rootF_eq (n + 1) (ss.drop (half ss.length)) (by omega)]
  unfold root
  rw [hn]
  simp [rootF, hn]
theorem root_size (ss : List ByteArray) : (root ss).size = 4 := by
  unfold root
  cases ss.length with
  | zero => rfl
  | succ n =>
    unfold rootF
    split
    · rfl
    · split <;> rfl
end Go.Proofs.YtkhnjipjbhcgdaaGreat.Pl
