/-
  THE WALK of treeheadlaw.Convicted.
-/
import Derived.Test.YtkhnjipjbhcgdaaTConv2
import Derived.Test.YtkhnjipjbhcgdaaSigns
namespace Go.Proofs.Ytkhnjipjbhcgdaa
open Go.RowKit

def aaaa : ByteArray := ⟨#[97, 97, 97, 97]⟩
def bbbb : ByteArray := ⟨#[98, 98, 98, 98]⟩
def SA : ByteArray := Pl.signT 2 3 5 aaaa
def SB : ByteArray := Pl.signT 2 3 5 bbbb
theorem sa_sign : signS 2 3 5 aaaa = SA := if_pos (by decide +kernel)
theorem sb_sign : signS 2 3 5 bbbb = SB := if_pos (by decide +kernel)
theorem sab_evid : evid 16 SB SA = (textV SA SB, 0) := by decide +kernel
theorem sab_conv : convE 16 (textV SA SB) = 0 := by decide +kernel
theorem sa_size : SA.size = 11 := by decide +kernel
theorem sb_size : SB.size = 11 := by decide +kernel

set_option maxRecDepth 100000 in
set_option maxHeartbeats 4000000 in
theorem convicted_walk (c0 : Int) (s1 s2 s3 : ByteArray) (w : World) (_h0 : Fits c0) (_h1 : s1.size ≤ maxLen) (_h2 : s2.size ≤ maxLen) (_h3 : s3.size ≤ maxLen) :
    Calls Try.prog 8 #[.int .i64 c0, .string s1, .string s2, .string s3] w fun e w' => e = .returned (.bool true) ∧ Below w.heap.size w w' := by
  clear _h0 _h1 _h2 _h3
  have HA : Hid (∀ w, Calls Try.prog 32 #[.int .i64 5, .string ⟨#[97, 97, 97, 97]⟩] w fun e w' => e = .returned (.string SA) ∧ Below w.heap.size w w') := fun w => by
    have := signed_any 5 aaaa w (by decide)
    rwa [sa_sign] at this
  have HB : Hid (∀ w, Calls Try.prog 32 #[.int .i64 5, .string ⟨#[98, 98, 98, 98]⟩] w fun e w' => e = .returned (.string SB) ∧ Below w.heap.size w w') := fun w => by
    have := signed_any 5 bbbb w (by decide)
    rwa [sb_sign] at this
  have HV : Hid (∀ w, Calls Try.prog 36 #[.int .i64 16, .string SB, .string SA] w fun e w' => e = .returned (.tuple #[.string (⟨#[86]⟩ ++ SA ++ SB), .int .i64 0]) ∧ Below w.heap.size w w') := fun w => by
    have := tevid_any 16 SB SA w
    rwa [sab_evid] at this
  have HC : Hid (∀ w, Calls Try.prog 37 #[.int .i64 16, .string (⟨#[86]⟩ ++ SA ++ SB)] w fun e w' => e = .returned (.int .i64 0) ∧ Below w.heap.size w w') := fun w => by
    have := tconv_any 16 (textV SA SB) w
    rwa [sab_conv] at this
  have z1 := sa_size
  have z2 := sb_size
  generalize SA = sa at *
  generalize SB = sb at *
  have HE : Hid (∀ w, Calls Try.prog 36 #[.int .i64 c0, .string s1, .string s2] w fun e w' => e = .returned (.tuple #[.string (evid c0 s1 s2).1, .int .i64 (evid c0 s1 s2).2]) ∧ Below w.heap.size w w') := fun w => tevid_any c0 s1 s2 w
  have HER : Hid (∀ w, Calls Try.prog 38 #[.int .i64 c0, .string s1, .string s2] w fun e w' => e = .returned (.tuple #[.string (evid c0 s1 s2).1, .int .i64 (evid c0 s1 s2).2]) ∧ Below w.heap.size w w') := fun w => revid_any c0 s1 s2 w
  have HG : Hid (∀ w, Calls Try.prog 37 #[.int .i64 c0, .string s3] w fun e w' => e = .returned (.int .i64 (convE c0 s3)) ∧ Below w.heap.size w w') := fun w => tconv_any c0 s3 w
  have HGR : Hid (∀ w, Calls Try.prog 39 #[.int .i64 c0, .string s3] w fun e w' => e = .returned (.int .i64 (convE c0 s3)) ∧ Below w.heap.size w w') := fun w => rconv_any c0 s3 w
  generalize evid c0 s1 s2 = ev at *
  obtain ⟨eS, eN⟩ := ev
  generalize convE c0 s3 = cE at *
  have hq1 : (eN == eN) = true := beq_self_eq_true eN
  have hq2 : (cE == cE) = true := beq_self_eq_true cE
  go_enter Try.func8, Try.ntmps8
  go_wp2_with fail
  refine (HA.out _).mono ?_
  rintro e w1 ⟨rfl, hb1⟩
  go_wp2_with fail
  refine (HB.out _).mono ?_
  rintro e w2 ⟨rfl, hb2⟩
  go_wp2_with fail
  refine (HV.out _).mono ?_
  rintro e w3 ⟨rfl, hb3⟩
  go_wp2_with fail
  refine (HC.out _).mono ?_
  rintro e w4 ⟨rfl, hb4⟩
  go_wp2_with fail
  refine (HE.out _).mono ?_
  rintro e w5 ⟨rfl, hb5⟩
  go_wp2_with fail
  refine (HER.out _).mono ?_
  rintro e w6 ⟨rfl, hb6⟩
  go_wp2_with fail
  refine (HG.out _).mono ?_
  rintro e w7 ⟨rfl, hb7⟩
  go_wp2_with fail
  refine (HGR.out _).mono ?_
  rintro e w8 ⟨rfl, hb8⟩
  go_wp2_with fail
  go_ret
  have k2 := hb1.trans (hb2.mono hb1.size)
  have k3 := k2.trans (hb3.mono k2.size)
  have k4 := k3.trans (hb4.mono k3.size)
  have k5 := k4.trans (hb5.mono k4.size)
  have k6 := k5.trans (hb6.mono k5.size)
  have k7 := k6.trans (hb7.mono k6.size)
  exact ⟨rfl, k7.trans (hb8.mono k7.size)⟩

end Go.Proofs.Ytkhnjipjbhcgdaa
