/-
  THE WALK of treeheadkeep.Guilty.
-/
import Derived.Test.YtkhnjipjbhcgdabPick
import Derived.Test.YtkhnjipjbhcgdabMade
import Derived.Test.YtkhnjipjbhcgdabOpen2
namespace Go.Proofs.Ytkhnjipjbhcgdab
open Go.RowKit Hp

theorem signS_yes (x n z : Nat) (r : ByteArray) (h1 : 1 ≤ x) (h2 : x ≤ 1018) (h3 : 1 ≤ n) (h4 : n ≤ 1018) (h5 : z ≤ 40) (h6 : Pl.isSumB r = true) : signS x n z r = Pl.signT x n z r ∧ signE x n z r = 0 := by
  have hb : Pl.signB (x : Int) (n : Int) (z : Int) r = true := by
    unfold Pl.signB
    simp only [Bool.and_eq_true, decide_eq_true_iff]
    exact ⟨⟨⟨⟨⟨⟨by omega, by omega⟩, by omega⟩, by omega⟩, by omega⟩, by omega⟩, h6⟩
  unfold signS signE
  rw [hb, if_pos rfl, if_pos rfl, Int.toNat_natCast, Int.toNat_natCast, Int.toNat_natCast]
  exact ⟨rfl, rfl⟩
theorem sign_to (x n z : Nat) (r : ByteArray) (w : World) (h1 : 1 ≤ x) (h2 : x ≤ 1018) (h3 : 1 ≤ n) (h4 : n ≤ 1018) (h5 : z ≤ 40) (h6 : Pl.isSumB r = true) :
    Calls Try.prog 11 #[.int .i64 x, .int .i64 n, .agg #[.int .i64 z, .string r]] w fun e w' => e = .returned (.tuple #[.string (Pl.signT x n z r), .int .i64 0]) ∧ Below w.heap.size w w' := by
  have := tsign_any x n z r w (by rw [isSumB_size h6]; decide)
  rwa [(signS_yes x n z r h1 h2 h3 h4 h5 h6).1, (signS_yes x n z r h1 h2 h3 h4 h5 h6).2] at this
theorem key_to (x : Nat) (w : World) (h1 : 1 ≤ x) (h2 : x ≤ 1018) :
    Calls Try.prog 10 #[.int .i64 x] w fun e w' => e = .returned (.tuple #[.int .i64 (Pl.powM 4 x : Nat), .int .i64 0]) ∧ Below w.heap.size w w' := by
  have := tkey_any x w
  rwa [show keyAns (x : Int) = .tuple #[.int .i64 (Pl.powM 4 x : Nat), .int .i64 0] by unfold keyAns; rw [if_pos ⟨by omega, by omega⟩, Int.toNat_natCast]] at this
theorem evid_to (k : Int) (a b V : ByteArray) (x : Int) (w : World) (h : evid k a b = (V, x)) :
    Calls Try.prog 13 #[.int .i64 k, .string a, .string b] w fun e w' => e = .returned (.tuple #[.string V, .int .i64 x]) ∧ Below w.heap.size w w' := by
  have := tevid_any k a b w
  rwa [h] at this
theorem conv_to (k : Int) (v : ByteArray) (x : Int) (w : World) (h : convE k v = x) :
    Calls Try.prog 14 #[.int .i64 k, .string v] w fun e w' => e = .returned (.int .i64 x) ∧ Below w.heap.size w w' := by
  have := tconv_any k v w
  rwa [h] at this

/-- The sum of two bytes, laid anew. -/
theorem sum_two (c : Int) (w : World) :
    Calls Try.prog 9 #[.slice (some ⟨w.heap.size + 1, 0, none⟩) 1 1] ((w.alloc (.cells #[.int .u8 (c % 256), .int .u8 (c / 256 % 256)] 5)).alloc (.cells #[.string (twoB c)] 9)) fun e w' => e = .returned (.string (Pl.sumB (twoB c))) ∧ Below w.heap.size w w' := by
  have h := sum_one (twoB c) (w.alloc (.cells #[.int .u8 (c % 256), .int .u8 (c / 256 % 256)] 5)) (show 2 ≤ maxLen by decide)
  rw [show (w.alloc (.cells #[.int .u8 (c % 256), .int .u8 (c / 256 % 256)] 5)).heap.size = w.heap.size + 1 by simp] at h
  exact h.mono fun e w' ⟨he, hb⟩ => ⟨he, ((Below.refl _ w).alloc (Nat.le_refl _) _).trans (hb.mono (by omega))⟩

set_option maxRecDepth 100000 in
set_option maxHeartbeats 4000000 in
theorem guilty_walk (c0 c1 c2 c3 : Int) (w : World) (h0 : Fits c0) (h1 : Fits c1) (h2 : Fits c2) (h3 : Fits c3) :
    Calls Try.prog 4 #[.int .i64 c0, .int .i64 c1, .int .i64 c2, .int .i64 c3] w fun e w' => e = .returned (.bool true) ∧ Below w.heap.size w w' := by
  obtain ⟨x, hx, HX⟩ := pick_nat c0 1018 h0 (by omega) (by omega)
  obtain ⟨z, hz, HZ⟩ := pick_nat c1 41 h1 (by omega) (by omega)
  obtain ⟨n1, hn1, HN1⟩ := pick_nat c2 1018 h2 (by omega) (by omega)
  obtain ⟨n2, hn2, HN2⟩ := pick_nat c3 1018 h3 (by omega) (by omega)
  have HX : Hid _ := HX
  have HZ : Hid _ := HZ
  have HN1 : Hid _ := HN1
  have HN2 : Hid _ := HN2
  have hcv1 := twoB_conv c2
  have hcv2 := twoB_conv c3
  have HS1 : Hid _ := fun w => sum_two c2 w
  have HS2 : Hid _ := fun w => sum_two c3 w
  have hr1 := Pl.sumB_isSum (twoB c2)
  have hr2 := Pl.sumB_isSum (twoB c3)
  generalize Pl.sumB (twoB c2) = r at *
  generalize Pl.sumB (twoB c3) = s at *
  generalize twoB c2 = t1 at *
  generalize twoB c3 = t2 at *
  have HK : Hid (∀ w, Calls Try.prog 10 #[.int .i64 (1 + (x : Int))] w fun e w' => e = .returned (.tuple #[.int .i64 (Pl.powM 4 (1 + x) : Nat), .int .i64 0]) ∧ Below w.heap.size w w') := fun w => by
    have := key_to (1 + x) w (by omega) (by omega)
    rwa [show ((1 + x : Nat) : Int) = 1 + (x : Int) by omega] at this
  have HA : Hid (∀ w, Calls Try.prog 11 #[.int .i64 (1 + (x : Int)), .int .i64 (1 + (n1 : Int)), .agg #[.int .i64 z, .string r]] w fun e w' => e = .returned (.tuple #[.string (Pl.signT (1 + x) (1 + n1) z r), .int .i64 0]) ∧ Below w.heap.size w w') := fun w => by
    have := sign_to (1 + x) (1 + n1) z r w (by omega) (by omega) (by omega) (by omega) (by omega) hr1
    rwa [show ((1 + x : Nat) : Int) = 1 + (x : Int) by omega, show ((1 + n1 : Nat) : Int) = 1 + (n1 : Int) by omega] at this
  have HB : Hid (∀ w, Calls Try.prog 11 #[.int .i64 (1 + (x : Int)), .int .i64 (1 + (n2 : Int)), .agg #[.int .i64 z, .string s]] w fun e w' => e = .returned (.tuple #[.string (Pl.signT (1 + x) (1 + n2) z s), .int .i64 0]) ∧ Below w.heap.size w w') := fun w => by
    have := sign_to (1 + x) (1 + n2) z s w (by omega) (by omega) (by omega) (by omega) (by omega) hr2
    rwa [show ((1 + x : Nat) : Int) = 1 + (x : Int) by omega, show ((1 + n2 : Nat) : Int) = 1 + (n2 : Int) by omega] at this
  obtain ⟨a1, a2, a3, a4, a5, a6⟩ := sign_open (1 + x) (1 + n1) z r (by omega) (by omega) (by omega) (by omega) hr1
  obtain ⟨_, b2, b3, b4, b5, b6⟩ := sign_open (1 + x) (1 + n2) z s (by omega) (by omega) (by omega) (by omega) hr2
  obtain ⟨o1, o2, o3⟩ := sign_openE (1 + x) (1 + n1) z r (by omega) (by omega) (by omega) (by omega) hr1
  obtain ⟨p1, p2, p3⟩ := sign_openE (1 + x) (1 + n2) z s (by omega) (by omega) (by omega) (by omega) hr2
  generalize Pl.signT (1 + x) (1 + n1) z r = A at *
  generalize Pl.signT (1 + x) (1 + n2) z s = B at *
  generalize Pl.powM 4 (1 + x) = k at *
  have HE3 : Hid _ := fun w => evid_to k A A _ _ w (evid_same k A A o1 o1 rfl rfl)
  by_cases hrs : r = s
  · have HE1 : Hid _ := fun w => evid_to k A B _ _ w (evid_same k A B o1 p1 (by rw [o2, p2]) (by rw [o3, p3, hrs]))
    have HE2 : Hid _ := fun w => evid_to k B A _ _ w (evid_same k B A p1 o1 (by rw [o2, p2]) (by rw [o3, p3, hrs]))
    subst hrs
    clear a1 a2 a3 a4 a5 b2 b3 b4 b5 o1 o2 o3 p1 p2 p3 h0 h1 h2 h3
    go_enter Try.func4, Try.ntmps4
    go_wp2_with fail
    refine (HX.out _).mono ?_
    rintro e w1 ⟨rfl, rfl⟩
    go_wp2_with fail
    refine (HK.out _).mono ?_
    rintro e w2 ⟨rfl, k2⟩
    go_wp2_with fail
    refine (HS1.out _).mono ?_
    rintro e w3 ⟨rfl, b3'⟩
    have k3 := k2.trans (b3'.mono k2.size)
    clear b3' k2
    go_wp2_with fail
    refine (HS2.out _).mono ?_
    rintro e w4 ⟨rfl, b4'⟩
    have k4 := k3.trans (b4'.mono k3.size)
    clear b4' k3
    go_wp2_with fail
    refine (HN1.out _).mono ?_
    rintro e w5 ⟨rfl, rfl⟩
    go_wp2_with fail
    refine (HZ.out _).mono ?_
    rintro e w6 ⟨rfl, rfl⟩
    go_wp2_with fail
    refine (HA.out _).mono ?_
    rintro e w7 ⟨rfl, b7'⟩
    have k7 := k4.trans (b7'.mono k4.size)
    clear b7' k4
    go_wp2_with fail
    refine (HN2.out _).mono ?_
    rintro e w8 ⟨rfl, rfl⟩
    go_wp2_with fail
    refine (HZ.out _).mono ?_
    rintro e w9 ⟨rfl, rfl⟩
    go_wp2_with fail
    refine (HB.out _).mono ?_
    rintro e w10 ⟨rfl, b10'⟩
    have k10 := k7.trans (b10'.mono k7.size)
    clear b10' k7
    go_wp2_with fail
    refine (HE1.out _).mono ?_
    rintro e w11 ⟨rfl, b11'⟩
    have k11 := k10.trans (b11'.mono k10.size)
    clear b11' k10
    go_wp2_with fail
    refine (HE2.out _).mono ?_
    rintro e w12 ⟨rfl, b12'⟩
    have k12 := k11.trans (b12'.mono k11.size)
    clear b12' k11
    go_wp2_with fail
    refine (HE3.out _).mono ?_
    rintro e w13 ⟨rfl, b13'⟩
    have k13 := k12.trans (b13'.mono k12.size)
    clear b13' k12
    go_wp2_with fail
    go_ret
    exact ⟨rfl, k13⟩
  · have hne := str_no hrs
    have hE := evid_two k A B o1 p1 (by rw [o2, p2]) (by rw [o3, p3]; exact hrs)
    have hF := evid_flip k A B o1 p1 (by rw [o2, p2]) (by rw [o3, p3]; exact hrs)
    have hC : convE (k : Int) (evid k A B).1 = 0 := by
      rw [hE, o3, p3]
      cases hl : Op.bytesLess r.toList s.toList with
      | true => exact conv_ok k A B a1 a2 b2 (by rw [a4, b4]) (by rw [a5, b5]; exact hl) a3 b3 a6 b6
      | false => exact conv_ok k B A a1 b2 a2 (by rw [a4, b4]) (by rw [a5, b5, less_flip _ _ (toList_ne hrs), hl]; rfl) b3 a3 b6 a6
    have hx0 : (evid k A B).2 = 0 := by rw [hE]
    obtain ⟨V, y, hV⟩ : ∃ V y, evid k A B = (V, y) := ⟨_, _, rfl⟩
    rw [hV] at hC hx0 hF
    have hy : y = 0 := hx0
    subst hy
    have HE1 : Hid _ := fun w => evid_to k A B _ _ w hV
    have HE2 : Hid _ := fun w => evid_to k B A _ _ w hF
    have HC1 : Hid _ := fun w => conv_to k V _ w hC
    have HC2 : Hid (∀ w, Calls Try.prog 14 #[.int .i64 k, .string (⟨#[86]⟩ ++ A ++ A)] w fun e w' => e = .returned (.int .i64 3) ∧ Below w.heap.size w w') := fun w => conv_to k (textV A A) _ w (conv_same k A a1 a2 a6)
    clear hC hx0 hF hV hE a1 a2 a3 a4 a5 b2 b3 b4 b5 o1 o2 o3 p1 p2 p3 h0 h1 h2 h3 hrs
    go_enter Try.func4, Try.ntmps4
    go_wp2_with fail
    refine (HX.out _).mono ?_
    rintro e w1 ⟨rfl, rfl⟩
    go_wp2_with fail
    refine (HK.out _).mono ?_
    rintro e w2 ⟨rfl, k2⟩
    go_wp2_with fail
    refine (HS1.out _).mono ?_
    rintro e w3 ⟨rfl, b3'⟩
    have k3 := k2.trans (b3'.mono k2.size)
    clear b3' k2
    go_wp2_with fail
    refine (HS2.out _).mono ?_
    rintro e w4 ⟨rfl, b4'⟩
    have k4 := k3.trans (b4'.mono k3.size)
    clear b4' k3
    go_wp2_with fail
    refine (HN1.out _).mono ?_
    rintro e w5 ⟨rfl, rfl⟩
    go_wp2_with fail
    refine (HZ.out _).mono ?_
    rintro e w6 ⟨rfl, rfl⟩
    go_wp2_with fail
    refine (HA.out _).mono ?_
    rintro e w7 ⟨rfl, b7'⟩
    have k7 := k4.trans (b7'.mono k4.size)
    clear b7' k4
    go_wp2_with fail
    refine (HN2.out _).mono ?_
    rintro e w8 ⟨rfl, rfl⟩
    go_wp2_with fail
    refine (HZ.out _).mono ?_
    rintro e w9 ⟨rfl, rfl⟩
    go_wp2_with fail
    refine (HB.out _).mono ?_
    rintro e w10 ⟨rfl, b10'⟩
    have k10 := k7.trans (b10'.mono k7.size)
    clear b10' k7
    go_wp2_with fail
    refine (HE1.out _).mono ?_
    rintro e w11 ⟨rfl, b11'⟩
    have k11 := k10.trans (b11'.mono k10.size)
    clear b11' k10
    go_wp2_with fail
    refine (HE2.out _).mono ?_
    rintro e w12 ⟨rfl, b12'⟩
    have k12 := k11.trans (b12'.mono k11.size)
    clear b12' k11
    go_wp2_with fail
    refine (HE3.out _).mono ?_
    rintro e w13 ⟨rfl, b13'⟩
    have k13 := k12.trans (b13'.mono k12.size)
    clear b13' k12
    go_wp2_with fail
    refine (HC1.out _).mono ?_
    rintro e w14 ⟨rfl, b14'⟩
    have k14 := k13.trans (b14'.mono k13.size)
    clear b14' k13
    go_wp2_with fail
    refine (HC2.out _).mono ?_
    rintro e w15 ⟨rfl, b15'⟩
    have k15 := k14.trans (b15'.mono k14.size)
    clear b15' k14
    go_wp2_with fail
    go_ret
    exact ⟨rfl, k15⟩

end Go.Proofs.Ytkhnjipjbhcgdab
