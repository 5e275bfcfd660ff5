/-
  THE WALKS of treeheadlaw.signed, treeheadlaw.Signs.
-/
import Derived.Test.YtkhnjipjbhcgdaaTSign
import Derived.Test.YtkhnjipjbhcgdaaRConv
import Derived.Test.YtkhnjipjbhcgdaaOpen2
namespace Go.Proofs.Ytkhnjipjbhcgdaa
open Go.RowKit

def d014 : ByteArray := ⟨#[48, 49, 52, 100]⟩
def SG : ByteArray := Pl.signT 2 3 0 d014
theorem sg_open : openE 16 SG = 0 := by decide +kernel
theorem sg_size : openSize 16 SG = 0 := by decide +kernel
theorem sg_root : openRoot 16 SG = d014 := by decide +kernel
theorem sg_sign : signS 2 3 0 d014 = SG ∧ signE 2 3 0 d014 = 0 := by
  have h : Pl.signB 2 3 0 d014 = true := by decide +kernel
  exact ⟨if_pos h, if_pos h⟩
theorem key_two : keyAns 2 = .tuple #[.int .i64 16, .int .i64 0] := by
  unfold keyAns
  rw [if_pos (by decide)]
  have h : Pl.powM 4 ((2 : Int).toNat) = 16 := by decide +kernel
  rw [h]
  rfl

set_option maxRecDepth 100000 in
set_option maxHeartbeats 400000 in
theorem signed_any (size : Int) (root : ByteArray) (w : World) (hrs : root.size ≤ maxLen) :
    Calls Try.prog 32 #[.int .i64 size, .string root] w fun e w' => e = .returned (.string (signS 2 3 size root)) ∧ Below w.heap.size w w' := by
  have h := fun w => rsign_any 2 3 size root w hrs
  change ∀ w, Calls Try.prog 34 #[.int .i64 2, .int .i64 3, .agg #[.int .i64 size, .string root]] w fun e w' => e = .returned (.tuple #[.string (signS 2 3 size root), .int .i64 (signE 2 3 size root)]) ∧ Below w.heap.size w w' at h
  generalize signS 2 3 size root = S at *
  generalize signE 2 3 size root = x at *
  go_enter Try.func32, Try.ntmps32
  go_wp2_with fail
  refine (h _).mono ?_
  rintro e w1 ⟨rfl, hb⟩
  go_wp2_with fail
  go_ret
  exact ⟨rfl, hb⟩

theorem set_both {w : World} {k : Nat} {a b x y : Value} (h0 : w.cell? ⟨k, 0, none⟩ = some x) (h1 : w.cell? ⟨k, 1, none⟩ = some y) :
    ((w.setCell ⟨k, 0, none⟩ a).setCell ⟨k, 1, none⟩ b).cell? ⟨k, 0, none⟩ = some a ∧ ((w.setCell ⟨k, 0, none⟩ a).setCell ⟨k, 1, none⟩ b).cell? ⟨k, 1, none⟩ = some b := by
  have e0 : (w.setCell ⟨k, 0, none⟩ a).cell? ⟨k, 0, none⟩ = some a := World.cell?_setCell_same w _ _ h0
  have e1 : (w.setCell ⟨k, 0, none⟩ a).cell? ⟨k, 1, none⟩ = some y := by
    have := World.cell?_setCell_other w (a := ⟨k, 0, none⟩) (b := ⟨k, 1, none⟩) (v := a) (by simp)
    rw [this]; exact h1
  have e2 := World.cell?_setCell_other (w.setCell ⟨k, 0, none⟩ a) (a := ⟨k, 1, none⟩) (b := ⟨k, 0, none⟩) (v := b) (by simp)
  exact ⟨by rw [e2]; exact e0, World.cell?_setCell_same _ _ _ e1⟩

set_option maxRecDepth 100000 in
set_option maxHeartbeats 4000000 in
theorem signs_walk (c0 c1 : Int) (v2 : Value) (n2 : Int) (r2 : ByteArray) (c3 : Int) (s4 : ByteArray) (w : World) (_h0 : Fits c0) (_h1 : Fits c1) (hh : IsHead v2 n2 r2) (_h3 : Fits c3) (_h4 : s4.size ≤ maxLen) :
    Calls Try.prog 7 #[.int .i64 c0, .int .i64 c1, v2, .int .i64 c3, .string s4] w fun e w' => e = .returned (.bool true) ∧ Below w.heap.size w w' := by
  obtain ⟨rfl, _, hr2⟩ := hh
  clear _h0 _h1 _h3 _h4
  have HK2 : Hid (∀ w, Calls Try.prog 29 #[.int .i64 2] w fun e w' => e = .returned (.tuple #[.int .i64 16, .int .i64 0]) ∧ Below w.heap.size w w') := fun w => by
    have := tkey_any 2 w
    rwa [key_two] at this
  have HS2 : Hid (∀ w, Calls Try.prog 30 #[.int .i64 2, .int .i64 3, .agg #[.int .i64 0, .string d014]] w fun e w' => e = .returned (.tuple #[.string SG, .int .i64 0]) ∧ Below w.heap.size w w') := fun w => by
    have := tsign_any 2 3 0 d014 w (by decide)
    rwa [sg_sign.1, sg_sign.2] at this
  have HD : Hid (∀ w, Calls Try.prog 32 #[.int .i64 0, .string d014] w fun e w' => e = .returned (.string SG) ∧ Below w.heap.size w w') := fun w => by
    have := signed_any 0 d014 w (by decide)
    rwa [sg_sign.1] at this
  have HO2 : Hid (∀ w, Calls Try.prog 31 #[.int .i64 16, .string SG] w fun e w' => e = .returned (.tuple #[.agg #[.int .i64 0, .string d014], .int .i64 0]) ∧ Below w.heap.size w w') := fun w => by
    have := topen_any 16 SG w
    rwa [sg_open, sg_size, sg_root] at this
  obtain ⟨kk, kx, hkk⟩ : ∃ k x, keyAns c0 = .tuple #[.int .i64 k, .int .i64 x] := by
    unfold keyAns
    split
    · exact ⟨_, _, rfl⟩
    · exact ⟨_, _, rfl⟩
  have HK : Hid (∀ w, Calls Try.prog 29 #[.int .i64 c0] w fun e w' => e = .returned (.tuple #[.int .i64 kk, .int .i64 kx]) ∧ Below w.heap.size w w') := fun w => by
    have := tkey_any c0 w
    rwa [hkk] at this
  have HKR : Hid (∀ w, Calls Try.prog 33 #[.int .i64 c0] w fun e w' => e = .returned (.tuple #[.int .i64 kk, .int .i64 kx]) ∧ w' = w) := fun w => by
    have : Calls Try.prog 33 #[.int .i64 c0] w fun e w' => e = .returned (keyAns c0) ∧ w' = w := rkey_any c0 w
    rwa [hkk] at this
  have HS : Hid (∀ w, Calls Try.prog 30 #[.int .i64 c0, .int .i64 c1, .agg #[.int .i64 n2, .string r2]] w fun e w' => e = .returned (.tuple #[.string (signS c0 c1 n2 r2), .int .i64 (signE c0 c1 n2 r2)]) ∧ Below w.heap.size w w') := fun w => tsign_any c0 c1 n2 r2 w hr2
  have HSR : Hid (∀ w, Calls Try.prog 34 #[.int .i64 c0, .int .i64 c1, .agg #[.int .i64 n2, .string r2]] w fun e w' => e = .returned (.tuple #[.string (signS c0 c1 n2 r2), .int .i64 (signE c0 c1 n2 r2)]) ∧ Below w.heap.size w w') := fun w => rsign_any c0 c1 n2 r2 w hr2
  have HO : Hid (∀ w, Calls Try.prog 31 #[.int .i64 c3, .string s4] w fun e w' => e = .returned (.tuple #[.agg #[.int .i64 (openSize c3 s4 : Nat), .string (openRoot c3 s4)], .int .i64 (openE c3 s4)]) ∧ Below w.heap.size w w') := fun w => topen_any c3 s4 w
  have HOR : Hid (∀ w, Calls Try.prog 35 #[.int .i64 c3, .string s4] w fun e w' => e = .returned (.tuple #[.agg #[.int .i64 (openSize c3 s4 : Nat), .string (openRoot c3 s4)], .int .i64 (openE c3 s4)]) ∧ Below w.heap.size w w') := fun w => ropen_any c3 s4 w
  clear hkk hr2
  generalize signS c0 c1 n2 r2 = sS at *
  generalize signE c0 c1 n2 r2 = sE at *
  generalize openSize c3 s4 = oN at *
  generalize openRoot c3 s4 = oR at *
  generalize openE c3 s4 = oE at *
  have HDD : Hid (d014 = ⟨#[48, 49, 52, 100]⟩) := rfl
  rw [HDD.out] at HS2 HD HO2
  generalize SG = sg at *
  go_enter Try.func7, Try.ntmps7
  go_wp2_with fail
  refine (HK2.out _).mono ?_
  rintro e w2 ⟨rfl, hb2⟩
  obtain ⟨a20, a21, az2⟩ := box2 hb2
  go_wp2_with fail
  refine (HS2.out _).mono ?_
  rintro e w3 ⟨rfl, hb3⟩
  obtain ⟨a30, a31, az3⟩ := keep2 hb3 az2 a20 a21
  go_wp2_with fail
  refine (HD.out _).mono ?_
  rintro e w4 ⟨rfl, hb4⟩
  obtain ⟨a40, a41, az4⟩ := keep2 hb4 az3 a30 a31
  go_wp2_with fail
  refine (HO2.out _).mono ?_
  rintro e w5 ⟨rfl, hb5⟩
  obtain ⟨a50, a51, az5⟩ := keep2 hb5 az4 a40 a41
  have k5 : Below w.heap.size w w5 := by
    have k2 : Below w.heap.size w w2 := ((Below.refl _ _).alloc (Nat.le_refl _) _).trans (hb2.mono (by simp))
    have k3 := k2.trans (hb3.mono k2.size)
    have k4 := k3.trans (hb4.mono k3.size)
    exact k4.trans (hb5.mono k4.size)
  clear hb2 hb3 hb4 hb5 a20 a21 a30 a31 a40 a41 az2 az3 az4
  go_wp2_with fail
  refine (HD.out _).mono ?_
  rintro e w6 ⟨rfl, hb6⟩
  obtain ⟨g60, g61, gz6⟩ := box2 hb6
  obtain ⟨f60, f61⟩ := box2f hb6
  have hl6 : Below (w5.heap.size + 1) (w5.alloc (.cells #[.int .i64 0, .string ⟨#[48, 49, 52, 100]⟩] 38)) w6 := by simpa using hb6
  have a60 : w6.cell? ⟨w.heap.size, 0, none⟩ = some (.int .i64 n2) := by rw [hl6.cell (p := ⟨w.heap.size, 0, none⟩) (by show w.heap.size < _; omega), World.cell?_alloc_past _ _ _ az5]; exact a50
  have a61 : w6.cell? ⟨w.heap.size, 1, none⟩ = some (.string r2) := by rw [hl6.cell (p := ⟨w.heap.size, 1, none⟩) (by show w.heap.size < _; omega), World.cell?_alloc_past _ _ _ az5]; exact a51
  have k6 : Below w.heap.size w w6 := (k5.alloc k5.size _).trans (hl6.mono (by have := k5.size; omega))
  have az6 : w.heap.size < w6.heap.size := by omega
  clear hb6 hl6 a50 a51
  go_wp2_with fail
  refine (HK.out _).mono ?_
  rintro e w7 ⟨rfl, hb7⟩
  obtain ⟨a70, a71, az7⟩ := keep2 hb7 az6 a60 a61
  obtain ⟨g70, g71, gz7⟩ := keep2 hb7 gz6 g60 g61
  have f70 : w7.frozen? ⟨w5.heap.size, 0, none⟩ = false := by rw [hb7.frozen (p := ⟨w5.heap.size, 0, none⟩) gz6]; exact f60
  have f71 : w7.frozen? ⟨w5.heap.size, 1, none⟩ = false := by rw [hb7.frozen (p := ⟨w5.heap.size, 1, none⟩) gz6]; exact f61
  have k7 := k6.trans (hb7.mono k6.size)
  clear hb7 a60 a61 g60 g61 f60 f61 k6
  go_wp2_with fail
  refine (HKR.out _).mono ?_
  rintro e w8 ⟨rfl, rfl⟩
  go_wp2_with fail
  refine (HS.out _).mono ?_
  rintro e w9 ⟨rfl, hb9⟩
  obtain ⟨a90, a91, az9⟩ := keep2 hb9 az7 a70 a71
  obtain ⟨g90, g91, gz9⟩ := keep2 hb9 gz7 g70 g71
  have f90 : w9.frozen? ⟨w5.heap.size, 0, none⟩ = false := by rw [hb9.frozen (p := ⟨w5.heap.size, 0, none⟩) gz7]; exact f70
  have f91 : w9.frozen? ⟨w5.heap.size, 1, none⟩ = false := by rw [hb9.frozen (p := ⟨w5.heap.size, 1, none⟩) gz7]; exact f71
  have k9 := k7.trans (hb9.mono k7.size)
  clear hb9 a70 a71 g70 g71 f70 f71 k7
  go_wp2_with fail
  refine (HSR.out _).mono ?_
  rintro e w10 ⟨rfl, hb10⟩
  obtain ⟨g100, g101, gz10⟩ := keep2 hb10 gz9 g90 g91
  have f100 : w10.frozen? ⟨w5.heap.size, 0, none⟩ = false := by rw [hb10.frozen (p := ⟨w5.heap.size, 0, none⟩) gz9]; exact f90
  have f101 : w10.frozen? ⟨w5.heap.size, 1, none⟩ = false := by rw [hb10.frozen (p := ⟨w5.heap.size, 1, none⟩) gz9]; exact f91
  have k10 := k9.trans (hb10.mono k9.size)
  clear hb10 a90 a91 g90 g91 f90 f91 k9
  go_wp2_with fail
  refine (HO.out _).mono ?_
  rintro e w11 ⟨rfl, hb11⟩
  obtain ⟨g110, g111, gz11⟩ := keep2 hb11 gz10 g100 g101
  have f110 : w11.frozen? ⟨w5.heap.size, 0, none⟩ = false := by rw [hb11.frozen (p := ⟨w5.heap.size, 0, none⟩) gz10]; exact f100
  have f111 : w11.frozen? ⟨w5.heap.size, 1, none⟩ = false := by rw [hb11.frozen (p := ⟨w5.heap.size, 1, none⟩) gz10]; exact f101
  have k11 := k10.trans (hb11.mono k10.size)
  clear hb11 g100 g101 f100 f101 k10
  go_wp2_with fail
  obtain ⟨m0, m1⟩ := set_both (a := .int .i64 oN) (b := .string oR) g110 g111
  have mz : w5.heap.size < ((w11.setCell ⟨w5.heap.size, 0, none⟩ (.int .i64 oN)).setCell ⟨w5.heap.size, 1, none⟩ (.string oR)).heap.size := by simpa [World.setCell] using gz11
  have hle : w.heap.size ≤ w5.heap.size := k5.size
  have k12 : Below w.heap.size w ((w11.setCell ⟨w5.heap.size, 0, none⟩ (.int .i64 oN)).setCell ⟨w5.heap.size, 1, none⟩ (.string oR)) := (k11.setCell hle _).setCell hle _
  refine (HOR.out _).mono ?_
  rintro e w13 ⟨rfl, hb13⟩
  obtain ⟨g130, g131, gz13⟩ := keep2 hb13 mz m0 m1
  have k13 := k12.trans (hb13.mono k12.size)
  clear hb13 m0 m1 mz k12 k11
  have hkk : (kk == kk) = true := beq_self_eq_true kk
  have hkx : (kx == kx) = true := beq_self_eq_true kx
  have hsE : (sE == sE) = true := beq_self_eq_true sE
  have hoE : (oE == oE) = true := beq_self_eq_true oE
  go_wp2_with fail
  go_ret
  exact ⟨rfl, k13.alloc k13.size _⟩

end Go.Proofs.Ytkhnjipjbhcgdaa
