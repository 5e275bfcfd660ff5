import Derived.Test.YtkhnjipjbhcgdabTPow
import Derived.Lib.UnsafeStr
import Derived.Lib.BufferWrite
import Derived.Lib.Strings
import Derived.Laws.MakeOwn
/-
  THE WALKS of strings.IndexByte, sums.Is, seals.two, number, strings.HasPrefix, strings.Clone.
-/
namespace Go.Proofs.Ytkhnjipjbhcgdab
open Go.RowKit Hp

set_option maxRecDepth 100000 in
set_option maxHeartbeats 400000 in
theorem indexByte_any (s : ByteArray) (c : Int) (w : World) :
    Calls Try.prog 62 #[.string s, .int .u8 c] w fun e w' => e = .returned (.int .i64 (firstIdx s c.toNat.toUInt8)) ∧ w' = w := by
  have hx : ∀ w : World, (callFunc 77 #[.string s, .int .u8 c]).run Try.prog w = .ok (.value (.int .i64 (firstIdx s c.toNat.toUInt8))) w := by
    intro w
    rw [run_callFunc_extern Try.func77 (by kernel_rfl) (by kernel_rfl) (by kernel_rfl) (e := Extern.BytealgIndexByte.indexByte) (by kernel_rfl), run_indexByte_string]
    rfl
  generalize firstIdx s c.toNat.toUInt8 = x at *
  go_enter Try.func62, Try.ntmps62
  go_wp2
  go_ret
  exact ⟨rfl, rfl⟩

set_option maxRecDepth 100000 in
set_option maxHeartbeats 1000000 in
theorem tis_any (s : ByteArray) (w : World) (_hs : s.size ≤ maxLen) :
    Calls Try.prog 45 #[.string s] w fun e w' => e = .returned (.bool (Pl.isSumB s)) ∧ w' = w := by
  by_cases h4 : s.size = 4
  · have hb4 : ((s.size : Int) != 4) = false := by rw [h4]; rfl
    have HG : Hid (∀ (ha : ∀ k (hk : k < s.size), Pl.digB s[k] = true), Pl.isSumB s = true) := fun ha => isSumB_good h4 ha
    go_enter Try.func45, Try.ntmps45
    go_wp2
    go_loop [9] (fun i => ∃ k : Nat, k ≤ 4 ∧ i = .int .i64 k ∧ Hid (∀ j (hj : j < s.size), j < k → Pl.digB s[j] = true)) (fun i => 4 - (intOf i).toNat)
    case atStart => exact ⟨0, by omega, rfl, fun j hj h => by omega⟩
    case round =>
      obtain ⟨k, hk, rfl, HA⟩ := hrel
      by_cases hlt : k < 4
      · have hks : k < s.size := by omega
        have hx : ((s[k].toNat : Int)).toNat.toUInt8 = s[k] := by rw [Int.toNat_natCast]; exact UInt8.ofNat_toNat
        have hi := fun w => indexByte_any ⟨#[48, 49, 50, 51, 52, 53, 54, 55, 56, 57, 97, 98, 99, 100, 101, 102]⟩ (s[k].toNat : Int) w
        rw [hx] at hi
        have HI : Hid _ := hi
        have hd := firstIdx_digits s[k]
        have HB : Hid _ := isSumB_bad k hks
        have HN : Hid (Pl.digB s[k] = true → ∀ j (hj : j < s.size), j < k + 1 → Pl.digB s[j] = true) := by
          intro hdk j hj hjk
          by_cases hjk2 : j < k
          · exact HA.out j hj hjk2
          · obtain rfl : j = k := by omega
            exact hdk
        clear hi hx
        generalize firstIdx ⟨#[48, 49, 50, 51, 52, 53, 54, 55, 56, 57, 97, 98, 99, 100, 101, 102]⟩ s[k] = x at *
        cases hdk : Pl.digB s[k] with
        | true =>
          rw [hdk] at hd
          have hge : ¬ x < 0 := fun h => by have := hd.1 h; cases this
          clear hd
          go_wp2_with fail
          refine (HI.out _).mono ?_
          rintro e w1 ⟨rfl, rfl⟩
          go_wp2_with fail
          go_round
          case rel => exact ⟨k + 1, by omega, by go_num, HN.out hdk⟩
          case measure => simp [intOf]; omega
        | false =>
          have hlt0 : x < 0 := hd.2 hdk
          clear hd
          go_wp2_with fail
          refine (HI.out _).mono ?_
          rintro e w1 ⟨rfl, rfl⟩
          go_wp2_with fail
          go_ret
          exact ⟨ret_bool (HB.out hdk).symm, rfl⟩
      · go_wp2
        go_ret
        exact ⟨ret_bool (HG.out fun j hj => HA.out j hj (by omega)).symm, rfl⟩
  · have hb4 : ((s.size : Int) != 4) = true := by rw [bne_iff_ne]; omega
    have HB : Hid (Pl.isSumB s = false) := isSumB_long h4
    go_enter Try.func45, Try.ntmps45
    go_wp2
    go_ret
    exact ⟨ret_bool HB.out.symm, rfl⟩

set_option maxRecDepth 100000 in
set_option maxHeartbeats 400000 in
theorem ttwo_any (n : Nat) (w : World) (hn : n < 65536) :
    Calls Try.prog 55 #[.int .i64 n] w fun e w' => e = .returned (.string (Pl.two n)) ∧ Below w.heap.size w w' := by
  have hcv := two_bytes (n % 256) (n / 256) (by omega) (by omega)
  have ea : ((n % 256 : Nat) : Int) = (n : Int) % 256 := by omega
  have eb : ((n / 256 : Nat) : Int) = (n : Int) / 256 := by omega
  rw [ea, eb] at hcv
  have h1 : 0 ≤ (n : Int) % 256 ∧ (n : Int) % 256 < 256 := by omega
  have h2 : 0 ≤ (n : Int) / 256 ∧ (n : Int) / 256 < 256 := by omega
  clear ea eb
  go_enter Try.func55, Try.ntmps55
  go_wp2
  go_ret
  exact ⟨rfl, (Below.refl _ _).alloc (Nat.le_refl _) _⟩

theorem or_two (a b : Nat) (ha : a < 256) (hb : b < 256) : bits .or .i64 (a : Int) ((b : Int) * 256) = ((a + 256 * b : Nat) : Int) := by
  have e : ∀ n : Nat, n < 65536 → (BitVec.ofInt 64 (n : Int)).toNat = n := by
    intro n hn
    rw [BitVec.ofInt_natCast, BitVec.toNat_ofNat]
    omega
  have h := Nat.two_pow_add_eq_or_of_lt (i := 8) (b := a) (by omega) b
  have ho : a ||| 256 * b = a + 256 * b := by
    rw [Nat.or_comm]
    rw [show (2 : Nat) ^ 8 = 256 from rfl] at h
    omega
  show IntKind.i64.wrap ((BitVec.ofInt 64 (a : Int) ||| BitVec.ofInt 64 ((b : Int) * 256)).toNat : Int) = _
  rw [show (b : Int) * 256 = ((256 * b : Nat) : Int) by omega, BitVec.toNat_or, e a (by omega), e (256 * b) (by omega), ho, IntKind.wrap_i64]
  omega

set_option maxRecDepth 100000 in
set_option maxHeartbeats 400000 in
theorem tnumber_any (s : ByteArray) (w : World) (h2 : s.size = 2) :
    Calls Try.prog 66 #[.string s] w fun e w' => e = .returned (.int .i64 (Pl.byt s 0 + 256 * Pl.byt s 1 : Nat)) ∧ ∃ n, w' = w.drewN n := by
  have e0 := Pl.byt_eq s 0 (by omega)
  have e1 := Pl.byt_eq s 1 (by omega)
  have b0 := Pl.byt_lt s 0
  have b1 := Pl.byt_lt s 1
  generalize Pl.byt s 0 = x0 at *
  generalize Pl.byt s 1 = x1 at *
  go_enter Try.func66, Try.ntmps66
  go_wp2_with fail
  go_quiet (fail)
  go_wp2_with fail
  go_ret
  exact ⟨ret_int (or_two x0 x1 b0 b1), nq, rfl⟩

theorem prefix_byte (s : ByteArray) (c : UInt8) (h1 : 1 ≤ s.size) : ((s.extract 0 1).toList == [c]) = decide (Pl.byt s 0 = c.toNat) := by
  have hl : (s.extract 0 1).toList = [s[0]] := by
    rw [Lib.extract_toList]
    have hd : s.data.toList ≠ [] := fun h => by
      have : s.data.toList.length = 0 := by rw [h]; rfl
      simp at this
      have h3 : s.size = 0 := by rw [show s.size = s.data.size from rfl, this]; rfl
      omega
    cases hc : s.data.toList with
    | nil => exact absurd hc hd
    | cons x r =>
      have : s[0] = x := by
        rw [show s[0] = s.data.toList[0]'(by have h2 : 0 < s.size := h1; simpa using h2) from rfl]
        simp [hc]
      rw [this]
      rfl
  rw [hl, Bool.eq_iff_iff, beq_iff_eq, decide_eq_true_iff, ← Pl.byt_eq s 0 h1]
  constructor
  · intro h
    have : s[0] = c := by simpa using h
    rw [this]
  · intro h
    rw [UInt8.toNat_inj.1 h]

set_option maxRecDepth 100000 in
set_option maxHeartbeats 400000 in
theorem hasPrefix_any (s : ByteArray) (c : UInt8) (w : World) (hs : s.size ≤ maxLen) (h1 : 1 ≤ s.size) :
    Calls Try.prog 57 #[.string s, .string ⟨#[c]⟩] w fun e w' => e = .returned (.bool (decide (Pl.byt s 0 = c.toNat))) ∧ w' = w := by
  unfold maxLen at hs
  rw [← prefix_byte s c h1]
  go_enter Try.func57, Try.ntmps57
  go_wp2
  go_ret
  exact ⟨rfl, rfl⟩

theorem infoByte : (Try.prog.info? 5).map (fun i => (i.zero, i.size, i.bytes)) = some (some (.int .u8 0), 1, 1) := by kernel_rfl

set_option maxHeartbeats 4000000 in
set_option maxRecDepth 100000 in
theorem clone_any (s : ByteArray) (w : World) (hlim : s.size ≤ 281474976710656) :
    Calls Try.prog 67 #[.string s] w fun e w' => e = .returned (.string s) ∧ Below w.heap.size w w' := by
  by_cases h0 : s.size = 0
  · have hs : s = ⟨#[]⟩ := by
      apply ByteArray.ext
      exact Array.eq_empty_of_size_eq_zero h0
    subst hs
    go_enter Try.func67, Try.ntmps67
    go_wp2
    go_ret
    exact ⟨rfl, Below.refl _ _⟩
  · obtain ⟨i0, hi, hz0, hz1, hz2⟩ := info_parts infoByte
    have hinfo : (Try.prog.info? 5).map (·.size) = some 1 := by rw [hi]; simp [hz1]
    have hco : Try.prog.cellsOf 5 = 1 := by simp [Program.cellsOf, hi, hz1]
    obtain ⟨M, hM⟩ : ∃ M, M = madeCells (Value.int .u8 0).cells (((s.size : Nat) : Int).toNat * i0.size) := ⟨_, rfl⟩
    have hMs : M.size = s.size := by rw [hM, size_madeCells, hz1]; simp
    have hmk : ∀ W : World, (Instr.makeSlice 25 (.int .i64 (s.size : Int)) (.int .i64 (s.size : Int))).run Try.prog W = .ok (.slice (some ⟨W.heap.size, 0, none⟩) s.size s.size) (W.alloc (.cells M 5)) := fun W => by
      have h := run_make (P := Try.prog) W 25 5 i0 (.int .u8 0) Try.underlying25 hi hz0 .i64 .i64 (s.size : Int) (s.size : Int) (by omega) (by omega) (by rw [hz2]; omega) (by omega)
      rw [← hM] at h
      simpa using h
    clear hM
    have hcp := Lib.run_copy_row_string (P := Try.prog) (w.alloc (.cells M 5)) 25 9 3 5 w.heap.size 0 s.size s.size s M 5 Try.underlying25 hinfo (heap_alloc_new w _) (Nat.le_refl _) (by omega)
    obtain ⟨Y, hY⟩ : ∃ Y, Y = (M.toList.take 0 ++ Lib.byteCells s.data.toList ++ M.toList.drop (0 + s.size)).toArray := ⟨_, rfl⟩
    rw [← hY] at hcp
    have hYl : Y.toList = Lib.byteCells s.data.toList := by
      rw [hY, List.toList_toArray, List.take_zero, List.nil_append, List.drop_of_length_le (by rw [Array.length_toList]; omega), List.append_nil]
    have hYs : Y.size = s.size := by rw [← Array.length_toList, hYl, Lib.byteCells_length, ← Lib.size_eq]
    have hgY : ((w.alloc (.cells M 5)).setRow w.heap.size Y).heap[w.heap.size]? = some (.cells Y 5 (0, 0)) := setRow_heap _ _ M _ 5 (0, 0) (heap_alloc_new w _)
    have hne : s.data.toList ≠ [] := fun e => h0 (by rw [Lib.size_eq, e]; rfl)
    have hUS := Lib.run_unsafeString_row (P := Try.prog) ((w.alloc (.cells M 5)).setRow w.heap.size Y) 121 3 9 5 Try.underlying121 hco w.heap.size Y.size (by unfold World.shape?; rw [hgY]) s.data.toList hne (by rw [← Lib.size_eq]; omega) (by rw [← Lib.size_eq]; omega)
      (fun j x hx => Lib.cells_of_row hgY Y.size j _ (by rw [List.take_of_length_le (by rw [Array.length_toList]; exact Nat.le_refl _), hYl]; simp [Lib.byteCells, hx]))
    rw [← Lib.size_eq] at hUS
    clear hY
    go_enter Try.func67, Try.ntmps67
    go_wp2
    go_ret
    have hb1 : Below w.heap.size w (w.alloc (.cells M 5)) := (Below.refl _ w).alloc (Nat.le_refl _) _
    have hb2 : Below w.heap.size (w.alloc (.cells M 5)) ((w.alloc (.cells M 5)).setRow w.heap.size Y) := ⟨rfl, rfl, rfl, by simp, fun k hk => setRow_other _ _ _ _ (by omega)⟩
    exact ⟨rfl, Lib.below_freeze (hb1.trans hb2) (p := ⟨w.heap.size, 0, none⟩) (Nat.le_refl _) _⟩

end Go.Proofs.Ytkhnjipjbhcgdab
