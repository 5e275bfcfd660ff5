import Derived.Test.YtkhnjipjbhcgdaaGreatHand
import Derived.Laws.Shifts
import Derived.Laws.Bits
import Derived.Laws.BitsLemmas
import Derived.Lib.UnsafeStr
import Derived.Lib.BufferWrite
import Derived.Lib.Strings
import Derived.Laws.MakeOwn
/-
  THE WALKS of sums.Is, seals.power, IsSecret, KeyOf, IsKey, two, number.
-/
namespace Go.Proofs.YtkhnjipjbhcgdaaGreat
open Go.RowKit Hp

set_option maxRecDepth 100000 in
set_option maxHeartbeats 1000000 in
theorem tpower_any (b n : Nat) (w : World) (hb : b < 2039) (hn : n ≤ 2000) :
    Calls Tryz.prog 44 #[.int .i64 b, .int .i64 n] w fun e w' => e = .returned (.int .i64 (Pl.powM b n : Nat)) ∧ w' = w := by
  have HP : Hid (Pl.powM b n = b ^ n % 2039) := Pl.powM_eq b n
  go_enter Tryz.func44, Tryz.ntmps44
  go_wp2
  go_loop [0, 1, 5] (fun x y o => ∃ B K O : Nat, x = .int .i64 B ∧ y = .int .i64 K ∧ o = .int .i64 O ∧ B < 2039 ∧ O < 2039 ∧ K ≤ n ∧ Hid (O * B ^ K % 2039 = b ^ n % 2039)) (fun _ y _ => (intOf y).toNat)
  case atStart => exact ⟨b, n, 1, rfl, rfl, rfl, hb, by omega, Nat.le_refl _, by show _ = _; rw [Nat.one_mul]⟩
  case round =>
    obtain ⟨B, K, O, rfl, rfl, rfl, hB, hO, hK, HI⟩ := hrel
    by_cases hk : 0 < K
    · have m1 : (B : Int) * (B : Int) ≤ 4157521 ∧ 0 ≤ (B : Int) * (B : Int) := by
        have h2 : B * B ≤ 2039 * 2039 := Nat.mul_le_mul (by omega) (by omega)
        have h3 : ((B * B : Nat) : Int) ≤ 4157521 := by omega
        rw [Int.natCast_mul] at h3
        exact ⟨h3, Int.mul_nonneg (by omega) (by omega)⟩
      have m2 : (O : Int) * (B : Int) ≤ 4157521 ∧ 0 ≤ (O : Int) * (B : Int) := by
        have h2 : O * B ≤ 2039 * 2039 := Nat.mul_le_mul (by omega) (by omega)
        have h3 : ((O * B : Nat) : Int) ≤ 4157521 := by omega
        rw [Int.natCast_mul] at h3
        exact ⟨h3, Int.mul_nonneg (by omega) (by omega)⟩
      have HB2 : Hid (((B * B % 2039 : Nat) : Int) = (B : Int) * (B : Int) % 2039) := by
        show _ = _
        rw [Int.natCast_emod, Int.natCast_mul]; rfl
      have HO2 : Hid (((O * B % 2039 : Nat) : Int) = (O : Int) * (B : Int) % 2039) := by
        show _ = _
        rw [Int.natCast_emod, Int.natCast_mul]; rfl
      by_cases ho : K % 2 = 1
      · have hod : ((K : Int) % 2 == 1) = true := by rw [beq_iff_eq]; omega
        have HI2 : Hid ((O * B % 2039) * (B * B % 2039) ^ (K / 2) % 2039 = b ^ n % 2039) := by show _ = _; rw [Pl.sq_odd O B K ho]; exact HI.out
        clear HI
        go_wp2
        go_round
        case rel => exact ⟨B * B % 2039, K / 2, O * B % 2039, val_int HB2.out.symm, by go_num, val_int HO2.out.symm, Nat.mod_lt _ (by omega), Nat.mod_lt _ (by omega), by omega, HI2⟩
        case measure => simp [intOf]; omega
      · have hod : ((K : Int) % 2 == 1) = false := by rw [beq_eq_false_iff_ne]; omega
        have HI2 : Hid (O * (B * B % 2039) ^ (K / 2) % 2039 = b ^ n % 2039) := by show _ = _; rw [Pl.sq_even O B K (by omega)]; exact HI.out
        clear HI
        go_wp2
        go_round
        case rel => exact ⟨B * B % 2039, K / 2, O, val_int HB2.out.symm, by go_num, rfl, Nat.mod_lt _ (by omega), hO, by omega, HI2⟩
        case measure => simp [intOf]; omega
    · obtain rfl : K = 0 := by omega
      go_wp2
      go_ret
      refine ⟨ret_int ?_, rfl⟩
      have h := HI.out
      rw [Nat.pow_zero, Nat.mul_one, Nat.mod_eq_of_lt hO] at h
      rw [HP.out, h]

set_option maxRecDepth 100000 in
set_option maxHeartbeats 400000 in
theorem tiskey_any (key : Int) (w : World) :
    Calls Tryz.prog 22 #[.int .i64 key] w fun e w' => e = .returned (.bool (Pl.keyB key)) ∧ w' = w := by
  have HK : Hid (Pl.keyB key = (decide (1 < key) && (decide (key < 2039) && decide (Pl.powM key.toNat 1019 = 1)))) := Pl.keyB_pow key
  by_cases h1 : 1 < key
  · by_cases h2 : key < 2039
    · obtain ⟨k, rfl⟩ : ∃ k : Nat, key = (k : Int) := ⟨key.toNat, by omega⟩
      have HP : Hid (∀ w, Calls Tryz.prog 44 #[.int .i64 k, .int .i64 1019] w fun e w' => e = .returned (.int .i64 (Pl.powM k 1019 : Nat)) ∧ w' = w) := fun w => tpower_any k 1019 w (by omega) (by omega)
      have HK2 : Hid (Pl.keyB (k : Int) = ((Pl.powM k 1019 : Int) == 1)) := by
        show _ = _
        rw [HK.out, decide_eq_true h1, decide_eq_true h2, Bool.true_and, Bool.true_and, Int.toNat_natCast, Bool.eq_iff_iff, decide_eq_true_iff, beq_iff_eq]
        omega
      clear HK
      generalize Pl.powM k 1019 = P at *
      go_enter Tryz.func22, Tryz.ntmps22
      go_wp2_with fail
      refine (HP.out _).mono ?_
      rintro e w1 ⟨rfl, rfl⟩
      go_wp2_with fail
      go_ret
      exact ⟨ret_bool HK2.out.symm, rfl⟩
    · have HF : Hid (Pl.keyB key = false) := by show _ = _; rw [HK.out]; simp [h2]
      clear HK
      go_enter Tryz.func22, Tryz.ntmps22
      go_wp2_with fail
      go_ret
      exact ⟨ret_bool HF.out.symm, rfl⟩
  · have HF : Hid (Pl.keyB key = false) := by show _ = _; rw [HK.out]; simp [h1]
    clear HK
    go_enter Tryz.func22, Tryz.ntmps22
    go_wp2_with fail
    go_ret
    exact ⟨ret_bool HF.out.symm, rfl⟩

end Go.Proofs.YtkhnjipjbhcgdaaGreat

/-
  THE WALKS of strings.IndexByte, sums.Is, seals.two, number, strings.HasPrefix, strings.Clone.
-/
namespace Go.Proofs.YtkhnjipjbhcgdaaGreat
open Go.RowKit Hp

set_option maxRecDepth 100000 in
set_option maxHeartbeats 400000 in
theorem indexByte_any (s : ByteArray) (c : Int) (w : World) :
    Calls Tryz.prog 80 #[.string s, .int .u8 c] w fun e w' => e = .returned (.int .i64 (firstIdx s c.toNat.toUInt8)) ∧ w' = w := by
  have hx : ∀ w : World, (callFunc 98 #[.string s, .int .u8 c]).run Tryz.prog w = .ok (.value (.int .i64 (firstIdx s c.toNat.toUInt8))) w := by
    intro w
    rw [run_callFunc_extern Tryz.func98 (by kernel_rfl) (by kernel_rfl) (by kernel_rfl) (e := Extern.BytealgIndexByte.indexByte) (by kernel_rfl), run_indexByte_string]
    rfl
  generalize firstIdx s c.toNat.toUInt8 = x at *
  go_enter Tryz.func80, Tryz.ntmps80
  go_wp2
  go_ret
  exact ⟨rfl, rfl⟩

set_option maxRecDepth 100000 in
set_option maxHeartbeats 1000000 in
theorem tis_any (s : ByteArray) (w : World) (_hs : s.size ≤ maxLen) :
    Calls Tryz.prog 68 #[.string s] w fun e w' => e = .returned (.bool (Pl.isSumB s)) ∧ w' = w := by
  by_cases h4 : s.size = 4
  · have hb4 : ((s.size : Int) != 4) = false := by rw [h4]; rfl
    have HG : Hid (∀ (ha : ∀ k (hk : k < s.size), Pl.digB s[k] = true), Pl.isSumB s = true) := fun ha => isSumB_good h4 ha
    go_enter Tryz.func68, Tryz.ntmps68
    go_wp2
    go_loop [9] (fun i => ∃ k : Nat, k ≤ 4 ∧ i = .int .i64 k ∧ Hid (∀ j (hj : j < s.size), j < k → Pl.digB s[j] = true)) (fun i => 4 - (intOf i).toNat)
    case atStart => exact ⟨0, by omega, rfl, fun j hj h => by omega⟩
    case round =>
      obtain ⟨k, hk, rfl, HA⟩ := hrel
      by_cases hlt : k < 4
      · have hks : k < s.size := by omega
        have hx : ((s[k].toNat : Int)).toNat.toUInt8 = s[k] := by rw [Int.toNat_natCast]; exact UInt8.ofNat_toNat
        have hi := fun w => indexByte_any ⟨#[48, 49, 50, 51, 52, 53, 54, 55, 56, 57, 97, 98, 99, 100, 101, 102]⟩ (s[k].toNat : Int) w
        rw [hx] at hi
        have HI : Hid _ := hi
        have hd := firstIdx_digits s[k]
        have HB : Hid _ := isSumB_bad k hks
        have HN : Hid (Pl.digB s[k] = true → ∀ j (hj : j < s.size), j < k + 1 → Pl.digB s[j] = true) := by
          intro hdk j hj hjk
          by_cases hjk2 : j < k
          · exact HA.out j hj hjk2
          · obtain rfl : j = k := by omega
            exact hdk
        clear hi hx
        generalize firstIdx ⟨#[48, 49, 50, 51, 52, 53, 54, 55, 56, 57, 97, 98, 99, 100, 101, 102]⟩ s[k] = x at *
        cases hdk : Pl.digB s[k] with
        | true =>
          rw [hdk] at hd
          have hge : ¬ x < 0 := fun h => by have := hd.1 h; cases this
          clear hd
          go_wp2_with fail
          refine (HI.out _).mono ?_
          rintro e w1 ⟨rfl, rfl⟩
          go_wp2_with fail
          go_round
          case rel => exact ⟨k + 1, by omega, by go_num, HN.out hdk⟩
          case measure => simp [intOf]; omega
        | false =>
          have hlt0 : x < 0 := hd.2 hdk
          clear hd
          go_wp2_with fail
          refine (HI.out _).mono ?_
          rintro e w1 ⟨rfl, rfl⟩
          go_wp2_with fail
          go_ret
          exact ⟨ret_bool (HB.out hdk).symm, rfl⟩
      · go_wp2
        go_ret
        exact ⟨ret_bool (HG.out fun j hj => HA.out j hj (by omega)).symm, rfl⟩
  · have hb4 : ((s.size : Int) != 4) = true := by rw [bne_iff_ne]; omega
    have HB : Hid (Pl.isSumB s = false) := isSumB_long h4
    go_enter Tryz.func68, Tryz.ntmps68
    go_wp2
    go_ret
    exact ⟨ret_bool HB.out.symm, rfl⟩

set_option maxRecDepth 100000 in
set_option maxHeartbeats 400000 in
theorem ttwo_any (n : Nat) (w : World) (hn : n < 65536) :
    Calls Tryz.prog 95 #[.int .i64 n] w fun e w' => e = .returned (.string (Pl.two n)) ∧ Below w.heap.size w w' := by
  have hcv := two_bytes (n % 256) (n / 256) (by omega) (by omega)
  have ea : ((n % 256 : Nat) : Int) = (n : Int) % 256 := by omega
  have eb : ((n / 256 : Nat) : Int) = (n : Int) / 256 := by omega
  rw [ea, eb] at hcv
  have h1 : 0 ≤ (n : Int) % 256 ∧ (n : Int) % 256 < 256 := by omega
  have h2 : 0 ≤ (n : Int) / 256 ∧ (n : Int) / 256 < 256 := by omega
  clear ea eb
  go_enter Tryz.func95, Tryz.ntmps95
  go_wp2
  go_ret
  exact ⟨rfl, (Below.refl _ _).alloc (Nat.le_refl _) _⟩

theorem or_two (a b : Nat) (ha : a < 256) (hb : b < 256) : bits .or .i64 (a : Int) ((b : Int) * 256) = ((a + 256 * b : Nat) : Int) := by
  have e : ∀ n : Nat, n < 65536 → (BitVec.ofInt 64 (n : Int)).toNat = n := by
    intro n hn
    rw [BitVec.ofInt_natCast, BitVec.toNat_ofNat]
    omega
  have h := Nat.two_pow_add_eq_or_of_lt (i := 8) (b := a) (by omega) b
  have ho : a ||| 256 * b = a + 256 * b := by
    rw [Nat.or_comm]
    rw [show (2 : Nat) ^ 8 = 256 from rfl] at h
    omega
  show IntKind.i64.wrap ((BitVec.ofInt 64 (a : Int) ||| BitVec.ofInt 64 ((b : Int) * 256)).toNat : Int) = _
  rw [show (b : Int) * 256 = ((256 * b : Nat) : Int) by omega, BitVec.toNat_or, e a (by omega), e (256 * b) (by omega), ho, IntKind.wrap_i64]
  omega

set_option maxRecDepth 100000 in
set_option maxHeartbeats 400000 in
theorem tnumber_any (s : ByteArray) (w : World) (h2 : s.size = 2) :
    Calls Tryz.prog 85 #[.string s] w fun e w' => e = .returned (.int .i64 (Pl.byt s 0 + 256 * Pl.byt s 1 : Nat)) ∧ ∃ n, w' = w.drewN n := by
  have e0 := Pl.byt_eq s 0 (by omega)
  have e1 := Pl.byt_eq s 1 (by omega)
  have b0 := Pl.byt_lt s 0
  have b1 := Pl.byt_lt s 1
  generalize Pl.byt s 0 = x0 at *
  generalize Pl.byt s 1 = x1 at *
  go_enter Tryz.func85, Tryz.ntmps85
  go_wp2_with fail
  go_quiet (fail)
  go_wp2_with fail
  go_ret
  exact ⟨ret_int (or_two x0 x1 b0 b1), nq, rfl⟩

theorem prefix_byte (s : ByteArray) (c : UInt8) (h1 : 1 ≤ s.size) : ((s.extract 0 1).toList == [c]) = decide (Pl.byt s 0 = c.toNat) := by
  have hl : (s.extract 0 1).toList = [s[0]] := by
    rw [Lib.extract_toList]
    have hd : s.data.toList ≠ [] := fun h => by
      have : s.data.toList.length = 0 := by rw [h]; rfl
      simp at this
      have h3 : s.size = 0 := by rw [show s.size = s.data.size from rfl, this]; rfl
      omega
    cases hc : s.data.toList with
    | nil => exact absurd hc hd
    | cons x r =>
      have : s[0] = x := by
        rw [show s[0] = s.data.toList[0]'(by have h2 : 0 < s.size := h1; simpa using h2) from rfl]
        simp [hc]
      rw [this]
      rfl
  rw [hl, Bool.eq_iff_iff, beq_iff_eq, decide_eq_true_iff, ← Pl.byt_eq s 0 h1]
  constructor
  · intro h
    have : s[0] = c := by simpa using h
    rw [this]
  · intro h
    rw [UInt8.toNat_inj.1 h]

set_option maxRecDepth 100000 in
set_option maxHeartbeats 400000 in
theorem hasPrefix_any (s : ByteArray) (c : UInt8) (w : World) (hs : s.size ≤ maxLen) (h1 : 1 ≤ s.size) :
    Calls Tryz.prog 84 #[.string s, .string ⟨#[c]⟩] w fun e w' => e = .returned (.bool (decide (Pl.byt s 0 = c.toNat))) ∧ w' = w := by
  unfold maxLen at hs
  rw [← prefix_byte s c h1]
  go_enter Tryz.func84, Tryz.ntmps84
  go_wp2
  go_ret
  exact ⟨rfl, rfl⟩

theorem infoByte : (Tryz.prog.info? 5).map (fun i => (i.zero, i.size, i.bytes)) = some (some (.int .u8 0), 1, 1) := by kernel_rfl

set_option maxHeartbeats 4000000 in
set_option maxRecDepth 100000 in
theorem clone_any (s : ByteArray) (w : World) (hlim : s.size ≤ 281474976710656) :
    Calls Tryz.prog 86 #[.string s] w fun e w' => e = .returned (.string s) ∧ Below w.heap.size w w' := by
  by_cases h0 : s.size = 0
  · have hs : s = ⟨#[]⟩ := by
      apply ByteArray.ext
      exact Array.eq_empty_of_size_eq_zero h0
    subst hs
    go_enter Tryz.func86, Tryz.ntmps86
    go_wp2
    go_ret
    exact ⟨rfl, Below.refl _ _⟩
  · obtain ⟨i0, hi, hz0, hz1, hz2⟩ := info_parts infoByte
    have hinfo : (Tryz.prog.info? 5).map (·.size) = some 1 := by rw [hi]; simp [hz1]
    have hco : Tryz.prog.cellsOf 5 = 1 := by simp [Program.cellsOf, hi, hz1]
    obtain ⟨M, hM⟩ : ∃ M, M = madeCells (Value.int .u8 0).cells (((s.size : Nat) : Int).toNat * i0.size) := ⟨_, rfl⟩
    have hMs : M.size = s.size := by rw [hM, size_madeCells, hz1]; simp
    have hmk : ∀ W : World, (Instr.makeSlice 87 (.int .i64 (s.size : Int)) (.int .i64 (s.size : Int))).run Tryz.prog W = .ok (.slice (some ⟨W.heap.size, 0, none⟩) s.size s.size) (W.alloc (.cells M 5)) := fun W => by
      have h := run_make (P := Tryz.prog) W 87 5 i0 (.int .u8 0) Tryz.underlying87 hi hz0 .i64 .i64 (s.size : Int) (s.size : Int) (by omega) (by omega) (by rw [hz2]; omega) (by omega)
      rw [← hM] at h
      simpa using h
    clear hM
    have hcp := Lib.run_copy_row_string (P := Tryz.prog) (w.alloc (.cells M 5)) 87 9 3 5 w.heap.size 0 s.size s.size s M 5 Tryz.underlying87 hinfo (heap_alloc_new w _) (Nat.le_refl _) (by omega)
    obtain ⟨Y, hY⟩ : ∃ Y, Y = (M.toList.take 0 ++ Lib.byteCells s.data.toList ++ M.toList.drop (0 + s.size)).toArray := ⟨_, rfl⟩
    rw [← hY] at hcp
    have hYl : Y.toList = Lib.byteCells s.data.toList := by
      rw [hY, List.toList_toArray, List.take_zero, List.nil_append, List.drop_of_length_le (by rw [Array.length_toList]; omega), List.append_nil]
    have hYs : Y.size = s.size := by rw [← Array.length_toList, hYl, Lib.byteCells_length, ← Lib.size_eq]
    have hgY : ((w.alloc (.cells M 5)).setRow w.heap.size Y).heap[w.heap.size]? = some (.cells Y 5 (0, 0)) := setRow_heap _ _ M _ 5 (0, 0) (heap_alloc_new w _)
    have hne : s.data.toList ≠ [] := fun e => h0 (by rw [Lib.size_eq, e]; rfl)
    have hUS := Lib.run_unsafeString_row (P := Tryz.prog) ((w.alloc (.cells M 5)).setRow w.heap.size Y) 131 3 9 5 Tryz.underlying131 hco w.heap.size Y.size (by unfold World.shape?; rw [hgY]) s.data.toList hne (by rw [← Lib.size_eq]; omega) (by rw [← Lib.size_eq]; omega)
      (fun j x hx => Lib.cells_of_row hgY Y.size j _ (by rw [List.take_of_length_le (by rw [Array.length_toList]; exact Nat.le_refl _), hYl]; simp [Lib.byteCells, hx]))
    rw [← Lib.size_eq] at hUS
    clear hY
    go_enter Tryz.func86, Tryz.ntmps86
    go_wp2
    go_ret
    have hb1 : Below w.heap.size w (w.alloc (.cells M 5)) := (Below.refl _ w).alloc (Nat.le_refl _) _
    have hb2 : Below w.heap.size (w.alloc (.cells M 5)) ((w.alloc (.cells M 5)).setRow w.heap.size Y) := ⟨rfl, rfl, rfl, by simp, fun k hk => setRow_other _ _ _ _ (by omega)⟩
    exact ⟨rfl, Lib.below_freeze (hb1.trans hb2) (p := ⟨w.heap.size, 0, none⟩) (Nat.le_refl _) _⟩

end Go.Proofs.YtkhnjipjbhcgdaaGreat
