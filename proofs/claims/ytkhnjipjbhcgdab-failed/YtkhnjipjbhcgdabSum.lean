/-
  THE WALKS of sums.written, sums.Of, treehead.Sum, treeheadref.Sum.
-/
import Derived.Test.YtkhnjipjbhcgdabNum
import Derived.Handy
import Derived.BigQuiet
import Derived.Laws.IdiomStrings
namespace Go.Proofs.Ytkhnjipjbhcgdab
open Go.RowKit

theorem four_bytes (b1 b2 b3 b4 : UInt8) (w : World) :
    (convert 25 9 (.slice (some ⟨w.heap.size, 0, none⟩) 4 4)).run Try.prog (w.alloc (.cells #[.int .u8 b1.toNat, .int .u8 b2.toNat, .int .u8 b3.toNat, .int .u8 b4.toNat] 104)) =
      .ok (.string ⟨#[b1, b2, b3, b4]⟩) (w.alloc (.cells #[.int .u8 b1.toNat, .int .u8 b2.toNat, .int .u8 b3.toNat, .int .u8 b4.toNat] 104)) := by
  have h := run_convert_bytes_back (P := Try.prog) (w.alloc (.cells #[.int .u8 b1.toNat, .int .u8 b2.toNat, .int .u8 b3.toNat, .int .u8 b4.toNat] 104)) 25 9 5 ⟨w.heap.size, 0, none⟩ 4 [b1, b2, b3, b4] Try.underlying25 Try.underlying5 Try.underlying9 (by
    intro j hj
    have hadd : (⟨w.heap.size, 0, none⟩ : Addr).add j = ⟨w.heap.size, j, none⟩ := by unfold Addr.add; split <;> simp_all
    rw [hadd, World.cell?_alloc_mark]
    match j, hj with
    | 0, _ => rfl
    | 1, _ => rfl
    | 2, _ => rfl
    | 3, _ => rfl)
  exact h

def digits : ByteArray := ⟨#[48, 49, 50, 51, 52, 53, 54, 55, 56, 57, 97, 98, 99, 100, 101, 102]⟩
theorem hex_at (n : Nat) (h : n % 16 < digits.size) : digits[n % 16] = Pl.hex n := by
  have hk : ∀ k : Nat, (hk : k < 16) → ∀ h : k < digits.size, digits[k]'h = (if k < 10 then UInt8.ofNat (48 + k) else UInt8.ofNat (87 + k)) := by
    decide
  unfold Pl.hex
  exact hk (n % 16) (by omega) h

theorem ext_at (k : Nat) (h : k < 16) : digits.extract k (k + 1) = ⟨#[Pl.hex k]⟩ := by
  have hk : ∀ k : Fin 16, digits.extract k.val (k.val + 1) = ⟨#[Pl.hex k.val]⟩ := by decide +kernel
  exact hk ⟨k, h⟩
theorem hex_mod (n : Nat) : Pl.hex (n % 16) = Pl.hex n := by unfold Pl.hex; rw [Nat.mod_mod]
theorem dig_cat (n : Nat) (h : n < 65536) : digits.extract (n / 4096) (n / 4096 + 1) ++ digits.extract (n / 256 % 16) (n / 256 % 16 + 1) ++ digits.extract (n / 16 % 16) (n / 16 % 16 + 1) ++ digits.extract (n % 16) (n % 16 + 1) = ⟨(Pl.dig4 n).toArray⟩ := by
  rw [ext_at _ (by omega), ext_at _ (by omega), ext_at _ (by omega), ext_at _ (by omega), hex_mod, hex_mod, hex_mod]
  apply ByteArray.ext
  simp [ByteArray.data_append, Pl.dig4]

set_option maxRecDepth 100000 in
set_option maxHeartbeats 400000 in
theorem written_any (n : Nat) (w : World) (hn : n < 65536) :
    Calls Try.prog 51 #[.int .i64 n] w fun e w' => e = .returned (.string ⟨(Pl.dig4 n).toArray⟩) ∧ Below w.heap.size w w' := by
  have hcv := four_bytes
  go_enter Try.func51, Try.ntmps51
  go_wp2
  refine wp_loop_rounds 5 ?_
  rw [rounds_succ]; go_wp2
  rw [rounds_succ]; go_wp2
  rw [rounds_succ]; go_wp2
  rw [rounds_succ]; go_wp2
  rw [rounds_succ]; go_wp2
  go_ret
  refine ⟨?_, (Below.refl _ _).alloc (Nat.le_refl _) _⟩
  have hd : ∀ k : Nat, k % 16 < digits.size := fun k => Nat.mod_lt _ (by decide)
  have hx : Pl.dig4 n = [digits[n / 16 / 16 / 16 % 16]'(hd _), digits[n / 16 / 16 % 16]'(hd _), digits[n / 16 % 16]'(hd _), digits[n % 16]'(hd _)] := by
    rw [hex_at _ (hd _), hex_at _ (hd _), hex_at _ (hd _), hex_at _ (hd _)]
    simp only [Nat.div_div_eq_div_mul]
    rfl
  rw [hx]
  rfl

set_option maxRecDepth 100000 in
set_option maxHeartbeats 400000 in
theorem of_any (p : Option Addr) (cap : Nat) (ss : List ByteArray) (w : World) (hr : Row w p ss) :
    Calls Try.prog 28 #[.slice p ss.length cap] w fun e w' => e = .returned (.string (Pl.sum (Pl.cat ss))) ∧ Below w.heap.size w w' := by
  have hn := Pl.num_lt (Pl.cat ss)
  go_enter Try.func28, Try.ntmps28
  go_wp2_with (first | (go_at_call 52; refine (number_any _ _ _ _ hr).mono ?_; rintro e w' ⟨rfl, rfl⟩) | (go_at_call 51; refine (written_any _ _ (by omega)).mono ?_; rintro e w1 ⟨rfl, hb⟩))
  go_ret
  exact ⟨rfl, hb⟩

set_option maxRecDepth 100000 in
set_option maxHeartbeats 400000 in
theorem sum_any (p : Option Addr) (cap : Nat) (ss : List ByteArray) (w : World) (hr : Row w p ss) :
    Calls Try.prog 9 #[.slice p ss.length cap] w fun e w' => e = .returned (.string (Pl.sum (Pl.cat ss))) ∧ Below w.heap.size w w' := by
  go_enter Try.func9, Try.ntmps9
  go_wp2_with (go_at_call 28; refine (of_any _ _ _ _ hr).mono ?_; rintro e w1 ⟨rfl, hb⟩)
  go_ret
  exact ⟨rfl, hb⟩

end Go.Proofs.Ytkhnjipjbhcgdab
