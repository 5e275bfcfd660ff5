/-
  THE WALKS of treehead.Evidence, treehead.Convicts.
-/
import Derived.Test.YtkhnjipjbhcgdabTConv
namespace Go.Proofs.Ytkhnjipjbhcgdab
open Go.RowKit Hp

theorem openE_zero {key : Int} {b : ByteArray} (h : openE key b = 0) : Pl.keyB key = true ∧ Pl.headB b = true ∧ Pl.rightB key.toNat b = true := by
  unfold openE at h
  cases hk : Pl.keyB key <;> rw [hk] at h
  · cases h
  · cases hh : Pl.headB b <;> rw [hh] at h
    · cases h
    · cases hr : Pl.rightB key.toNat b <;> rw [hr] at h
      · cases h
      · exact ⟨rfl, rfl, rfl⟩
theorem str_no {a b : ByteArray} (h : ¬ a = b) : (a.toList == b.toList) = false := beq_eq_false_iff_ne.2 (toList_ne h)

set_option maxRecDepth 100000 in
set_option maxHeartbeats 4000000 in
theorem tevid_err1 (key : Int) (one two : ByteArray) (w : World) (h1 : ¬ openE key one = 0) :
    Calls Try.prog 13 #[.int .i64 key, .string one, .string two] w fun e w' => e = .returned (.tuple #[.string ⟨#[]⟩, .int .i64 (openE key one)]) ∧ Below w.heap.size w w' := by
  obtain ⟨c1, s1, hv1⟩ := openV_form key one
  have HO1 : Hid _ := fun w => topenin_any key one w
  rw [hv1] at HO1
  clear hv1
  have hne : (openE key one != 0) = true := by rw [bne_iff_ne]; exact h1
  clear h1
  generalize openE key one = x1 at *
  generalize openSize key one = n1 at *
  generalize openRoot key one = r1 at *
  go_enter Try.func13, Try.ntmps13
  go_wp2_with fail
  refine (HO1.out _).mono ?_
  rintro e w2 ⟨rfl, hb2⟩
  go_wp2_with fail
  go_ret2
  exact ⟨rfl, hb2.alloc hb2.size _⟩

set_option maxRecDepth 100000 in
set_option maxHeartbeats 4000000 in
theorem tevid_err2 (key : Int) (one two : ByteArray) (w : World) (h1 : openE key one = 0) (h2 : ¬ openE key two = 0) :
    Calls Try.prog 13 #[.int .i64 key, .string one, .string two] w fun e w' => e = .returned (.tuple #[.string ⟨#[]⟩, .int .i64 (openE key two)]) ∧ Below w.heap.size w w' := by
  obtain ⟨c1, s1, hv1⟩ := openV_form key one
  obtain ⟨c2, s2, hv2⟩ := openV_form key two
  have HO1 : Hid _ := fun w => topenin_any key one w
  have HO2 : Hid _ := fun w => topenin_any key two w
  rw [hv1, h1] at HO1
  rw [hv2] at HO2
  clear hv1 hv2 h1
  have hne : (openE key two != 0) = true := by rw [bne_iff_ne]; exact h2
  clear h2
  generalize openE key two = x2 at *
  generalize openSize key one = n1 at *
  generalize openRoot key one = r1 at *
  generalize openSize key two = n2 at *
  generalize openRoot key two = r2 at *
  go_enter Try.func13, Try.ntmps13
  go_wp2_with fail
  refine (HO1.out _).mono ?_
  rintro e w2 ⟨rfl, hb2⟩
  go_wp2_with fail
  refine (HO2.out _).mono ?_
  rintro e w3 ⟨rfl, hb3⟩
  go_wp2_with fail
  go_ret2
  have k2 := hb2.alloc hb2.size (.cells #[.int .i64 (n1 : Nat), .string r1, .int .i64 c1, .int .i64 s1] 65)
  have k3 := k2.trans (hb3.mono (by have := hb2.size; simp; omega))
  exact ⟨rfl, k3.alloc k3.size _⟩

set_option maxRecDepth 100000 in
set_option maxHeartbeats 4000000 in
theorem tevid_ok (key : Int) (one two : ByteArray) (n1 c1 s1 n2 c2 s2 : Nat) (r1 r2 : ByteArray) (w : World)
    (HO1 : Hid (∀ w, Calls Try.prog 34 #[.int .i64 key, .string one] w fun e w' => e = .returned (.tuple #[.agg #[.int .i64 n1, .string r1, .int .i64 c1, .int .i64 s1], .int .i64 0]) ∧ Below w.heap.size w w'))
    (HO2 : Hid (∀ w, Calls Try.prog 34 #[.int .i64 key, .string two] w fun e w' => e = .returned (.tuple #[.agg #[.int .i64 n2, .string r2, .int .i64 c2, .int .i64 s2], .int .i64 0]) ∧ Below w.heap.size w w'))
    (V : ByteArray) (HV : Hid (∀ w, Calls Try.prog 35 #[.agg #[.int .i64 n1, .string r1, .int .i64 c1, .int .i64 s1], .agg #[.int .i64 n2, .string r2, .int .i64 c2, .int .i64 s2]] w fun e w' => e = .returned (.string V) ∧ Below w.heap.size w w')) :
    Calls Try.prog 13 #[.int .i64 key, .string one, .string two] w fun e w' => e = .returned (if ¬ n1 = n2 then .tuple #[.string ⟨#[]⟩, .int .i64 9] else if r1 = r2 then .tuple #[.string ⟨#[]⟩, .int .i64 8] else .tuple #[.string V, .int .i64 0]) ∧ Below w.heap.size w w' := by
  have HB : Hid (∀ w2 w3 : World, Below w.heap.size w w2 → Below (w2.alloc (.cells #[.int .i64 n1, .string r1, .int .i64 c1, .int .i64 s1] 65)).heap.size (w2.alloc (.cells #[.int .i64 n1, .string r1, .int .i64 c1, .int .i64 s1] 65)) w3 → Below w.heap.size w (w3.alloc (.cells #[.int .i64 n2, .string r2, .int .i64 c2, .int .i64 s2] 65))) := fun w2 w3 hb2 hb3 => by
    have k2 := hb2.alloc hb2.size (.cells #[.int .i64 n1, .string r1, .int .i64 c1, .int .i64 s1] 65)
    have k3 := k2.trans (hb3.mono (by have := hb2.size; simp; omega))
    exact k3.alloc k3.size _
  by_cases hn : n1 = n2
  · subst hn
    have hd : ((n1 : Int) != (n1 : Int)) = false := by simp
    rw [if_neg (by simp)]
    by_cases hr : r1 = r2
    · subst hr
      rw [if_pos rfl]
      go_enter Try.func13, Try.ntmps13
      go_wp2_with fail
      refine (HO1.out _).mono ?_
      rintro e w2 ⟨rfl, hb2⟩
      go_wp2_with fail
      refine (HO2.out _).mono ?_
      rintro e w3 ⟨rfl, hb3⟩
      have hx := (Box.new w2 65 [.int .i64 n1, .string r1, .int .i64 c1, .int .i64 s1]).grow hb3 (by simp)
      have e0 := hx.cell 0
      have e1 := hx.cell 1
      have hl := hx.lt
      have hne : ¬ w2.heap.size = w3.heap.size := by omega
      have k3 := HB.out w2 w3 hb2 hb3
      clear hb2 hb3 hx
      go_wp2_with fail
      go_ret2
      exact ⟨rfl, k3⟩
    · rw [if_neg hr]
      have hrb := str_no hr
      go_enter Try.func13, Try.ntmps13
      go_wp2_with fail
      refine (HO1.out _).mono ?_
      rintro e w2 ⟨rfl, hb2⟩
      go_wp2_with fail
      refine (HO2.out _).mono ?_
      rintro e w3 ⟨rfl, hb3⟩
      have hx := (Box.new w2 65 [.int .i64 n1, .string r1, .int .i64 c1, .int .i64 s1]).grow hb3 (by simp)
      have e0 := hx.cell 0
      have e1 := hx.cell 1
      have e2 := hx.cell 2
      have e3 := hx.cell 3
      have hl := hx.lt
      have hne : ¬ w2.heap.size = w3.heap.size := by omega
      have k3 := HB.out w2 w3 hb2 hb3
      clear hb2 hb3 hx
      go_wp2_with fail
      refine (HV.out _).mono ?_
      rintro e w4 ⟨rfl, hb4⟩
      go_wp2_with fail
      go_ret2
      exact ⟨rfl, k3.trans (hb4.mono k3.size)⟩
  · rw [if_pos hn]
    have hd : ((n1 : Int) != (n2 : Int)) = true := by rw [bne_iff_ne]; omega
    go_enter Try.func13, Try.ntmps13
    go_wp2_with fail
    refine (HO1.out _).mono ?_
    rintro e w2 ⟨rfl, hb2⟩
    go_wp2_with fail
    refine (HO2.out _).mono ?_
    rintro e w3 ⟨rfl, hb3⟩
    have hx := (Box.new w2 65 [.int .i64 n1, .string r1, .int .i64 c1, .int .i64 s1]).grow hb3 (by simp)
    have e0 := hx.cell 0
    have hl := hx.lt
    have hne : ¬ w2.heap.size = w3.heap.size := by omega
    have k3 := HB.out w2 w3 hb2 hb3
    clear hb2 hb3 hx
    go_wp2_with fail
    go_ret2
    exact ⟨rfl, k3⟩

set_option maxRecDepth 100000 in
theorem tevid_any (key : Int) (one two : ByteArray) (w : World) :
    Calls Try.prog 13 #[.int .i64 key, .string one, .string two] w fun e w' => e = .returned (.tuple #[.string (evid key one two).1, .int .i64 (evid key one two).2]) ∧ Below w.heap.size w w' := by
  by_cases h1 : openE key one = 0
  · by_cases h2 : openE key two = 0
    · obtain ⟨_, hh1, _⟩ := openE_zero h1
      obtain ⟨_, hh2, _⟩ := openE_zero h2
      have hv1 : openV key one = readV one := if_pos h1
      have hv2 : openV key two = readV two := if_pos h2
      have HO1 := fun w => topenin_any key one w
      have HO2 := fun w => topenin_any key two w
      rw [h1, hv1, readV_yes hh1] at HO1
      rw [h2, hv2, readV_yes hh2] at HO2
      obtain ⟨_, _, ha1, ha2, ha3, ha4⟩ := headB_parts hh1
      obtain ⟨_, _, hb1, hb2, hb3, hb4⟩ := headB_parts hh2
      have HV := fun w => tevidin_any (Pl.hSize one) (Pl.hC one) (Pl.hS one) (Pl.hSize two) (Pl.hC two) (Pl.hS two) (Pl.hRoot one) (Pl.hRoot two) w (by omega) (by omega) (by omega) (by omega) (by omega) (by omega) (isSumB_size ha2) (isSumB_size hb2)
      rw [Pl.head_again one hh1, Pl.head_again two hh2] at HV
      have h := tevid_ok key one two _ _ _ _ _ _ _ _ w HO1 HO2 _ HV
      refine h.mono fun e w' ⟨he, hb⟩ => ⟨?_, hb⟩
      rw [he]
      have s1 : openSize key one = Pl.hSize one := if_pos h1
      have s2 : openSize key two = Pl.hSize two := if_pos h2
      have t1 : openRoot key one = Pl.hRoot one := if_pos h1
      have t2 : openRoot key two = Pl.hRoot two := if_pos h2
      have hE : evid key one two = if ¬ Pl.hSize one = Pl.hSize two then (⟨#[]⟩, 9) else if Pl.hRoot one = Pl.hRoot two then (⟨#[]⟩, 8) else if Op.bytesLess (Pl.hRoot one).toList (Pl.hRoot two).toList = true then (textV one two, 0) else (textV two one, 0) := by
        unfold evid
        rw [if_neg (not_not_intro h1), if_neg (not_not_intro h2), s1, s2, t1, t2]
      rw [hE]
      by_cases hn : Pl.hSize one = Pl.hSize two
      · rw [if_neg (not_not_intro hn), if_neg (not_not_intro hn)]
        by_cases hr : Pl.hRoot one = Pl.hRoot two
        · rw [if_pos hr, if_pos hr]
        · rw [if_neg hr, if_neg hr, less_flip _ _ (toList_ne hr)]
          cases Op.bytesLess (Pl.hRoot one).toList (Pl.hRoot two).toList <;> rfl
      · rw [if_pos hn, if_pos hn]
    · have he : evid key one two = (⟨#[]⟩, openE key two) := by
        unfold evid
        rw [if_neg (not_not_intro h1), if_pos h2]
      rw [he]
      exact tevid_err2 key one two w h1 h2
  · have he : evid key one two = (⟨#[]⟩, openE key one) := by
      unfold evid
      rw [if_pos h1]
    rw [he]
    exact tevid_err1 key one two w h1

set_option maxRecDepth 100000 in
set_option maxHeartbeats 4000000 in
theorem tconv_key (key : Int) (v : ByteArray) (w : World) (hk : Pl.keyB key = false) :
    Calls Try.prog 14 #[.int .i64 key, .string v] w fun e w' => e = .returned (.int .i64 2) ∧ Below w.heap.size w w' := by
  have HK : Hid _ := fun w => tiskey_any key w
  rw [hk] at HK
  go_enter Try.func14, Try.ntmps14
  go_wp2_with fail
  refine (HK.out _).mono ?_
  rintro e w1 ⟨rfl, rfl⟩
  go_wp2_with fail
  go_ret
  exact ⟨rfl, Below.refl _ _⟩

set_option maxRecDepth 100000 in
set_option maxHeartbeats 4000000 in
theorem tconv_bytes (key : Int) (v : ByteArray) (w : World) (hk : Pl.keyB key = true) (he : evB v = false) :
    Calls Try.prog 14 #[.int .i64 key, .string v] w fun e w' => e = .returned (.int .i64 3) ∧ Below w.heap.size w w' := by
  have HK : Hid _ := fun w => tiskey_any key w
  rw [hk] at HK
  have HR : Hid _ := fun w => trevid_any v w
  rw [ev_no he] at HR
  go_enter Try.func14, Try.ntmps14
  go_wp2_with fail
  refine (HK.out _).mono ?_
  rintro e w1 ⟨rfl, rfl⟩
  go_wp2_with fail
  refine (HR.out _).mono ?_
  rintro e w2 ⟨rfl, hb2⟩
  go_wp2_with fail
  go_ret
  exact ⟨rfl, (hb2.alloc hb2.size _).alloc (by have := hb2.size; simp; omega) _⟩

set_option maxRecDepth 100000 in
set_option maxHeartbeats 4000000 in
theorem tconv_sign (key : Nat) (v : ByteArray) (n1 c1 s1 n2 c2 s2 : Nat) (r1 r2 : ByteArray) (x1 x2 : Bool) (w : World) (hk : Pl.keyB (key : Int) = true)
    (HR : Hid (∀ w, Calls Try.prog 37 #[.string v] w fun e w' => e = .returned (.tuple #[.agg #[.int .i64 n1, .string r1, .int .i64 c1, .int .i64 s1], .agg #[.int .i64 n2, .string r2, .int .i64 c2, .int .i64 s2], .bool true]) ∧ Below w.heap.size w w'))
    (H1 : Hid (∀ w, Calls Try.prog 38 #[.agg #[.int .i64 n1, .string r1, .int .i64 c1, .int .i64 s1], .int .i64 key] w fun e w' => e = .returned (.bool x1) ∧ Below w.heap.size w w'))
    (H2 : Hid (∀ w, Calls Try.prog 38 #[.agg #[.int .i64 n2, .string r2, .int .i64 c2, .int .i64 s2], .int .i64 key] w fun e w' => e = .returned (.bool x2) ∧ Below w.heap.size w w')) :
    Calls Try.prog 14 #[.int .i64 key, .string v] w fun e w' => e = .returned (.int .i64 (if x1 = false then 4 else if x2 = false then 4 else 0)) ∧ Below w.heap.size w w' := by
  have HK : Hid _ := fun w => tiskey_any (key : Int) w
  rw [hk] at HK
  clear hk
  have HB : Hid (∀ w2 : World, Below w.heap.size w w2 → Below w.heap.size w ((w2.alloc (.cells #[.int .i64 n1, .string r1, .int .i64 c1, .int .i64 s1] 65)).alloc (.cells #[.int .i64 n2, .string r2, .int .i64 c2, .int .i64 s2] 65)) ∧ Box ((w2.alloc (.cells #[.int .i64 n1, .string r1, .int .i64 c1, .int .i64 s1] 65)).alloc (.cells #[.int .i64 n2, .string r2, .int .i64 c2, .int .i64 s2] 65)) (w2.heap.size + 1) 65 [.int .i64 n2, .string r2, .int .i64 c2, .int .i64 s2]) := fun w2 hb2 => by
    refine ⟨(hb2.alloc hb2.size _).alloc (by have := hb2.size; simp; omega) _, ?_⟩
    have := Box.new (w2.alloc (.cells #[.int .i64 n1, .string r1, .int .i64 c1, .int .i64 s1] 65)) 65 [.int .i64 n2, .string r2, .int .i64 c2, .int .i64 s2]
    rw [show (w2.alloc (.cells #[.int .i64 n1, .string r1, .int .i64 c1, .int .i64 s1] 65)).heap.size = w2.heap.size + 1 by simp] at this
    exact this
  cases x1 with
  | false =>
    rw [if_pos rfl]
    go_enter Try.func14, Try.ntmps14
    go_wp2_with fail
    refine (HK.out _).mono ?_
    rintro e w1 ⟨rfl, rfl⟩
    go_wp2_with fail
    refine (HR.out _).mono ?_
    rintro e w2 ⟨rfl, hb2⟩
    obtain ⟨k2, _⟩ := HB.out w2 hb2
    clear hb2
    go_wp2_with fail
    refine (H1.out _).mono ?_
    rintro e w3 ⟨rfl, hb3⟩
    go_wp2_with fail
    go_ret
    exact ⟨rfl, k2.trans (hb3.mono k2.size)⟩
  | true =>
    rw [if_neg (by simp)]
    have HF : Hid (∀ r : Int, r = (if x2 = false then 4 else 0) → Ending.returned (.int .i64 r) = .returned (.int .i64 (if x2 = false then 4 else 0))) := fun r h => by rw [h]
    cases x2 with
    | false =>
      go_enter Try.func14, Try.ntmps14
      go_wp2_with fail
      refine (HK.out _).mono ?_
      rintro e w1 ⟨rfl, rfl⟩
      go_wp2_with fail
      refine (HR.out _).mono ?_
      rintro e w2 ⟨rfl, hb2⟩
      obtain ⟨k2, hx2⟩ := HB.out w2 hb2
      clear hb2
      go_wp2_with fail
      refine (H1.out _).mono ?_
      rintro e w3 ⟨rfl, hb3⟩
      have hx3 := hx2.grow hb3 hx2.lt
      have e0 := hx3.cell 0
      have e1 := hx3.cell 1
      have e2 := hx3.cell 2
      have e3 := hx3.cell 3
      have k3 := k2.trans (hb3.mono k2.size)
      clear hb3 hx2 k2
      go_wp2_with fail
      refine (H2.out _).mono ?_
      rintro e w4 ⟨rfl, hb4⟩
      go_wp2_with fail
      go_ret
      exact ⟨HF.out 4 rfl, k3.trans (hb4.mono k3.size)⟩
    | true =>
      go_enter Try.func14, Try.ntmps14
      go_wp2_with fail
      refine (HK.out _).mono ?_
      rintro e w1 ⟨rfl, rfl⟩
      go_wp2_with fail
      refine (HR.out _).mono ?_
      rintro e w2 ⟨rfl, hb2⟩
      obtain ⟨k2, hx2⟩ := HB.out w2 hb2
      clear hb2
      go_wp2_with fail
      refine (H1.out _).mono ?_
      rintro e w3 ⟨rfl, hb3⟩
      have hx3 := hx2.grow hb3 hx2.lt
      have e0 := hx3.cell 0
      have e1 := hx3.cell 1
      have e2 := hx3.cell 2
      have e3 := hx3.cell 3
      have k3 := k2.trans (hb3.mono k2.size)
      clear hb3 hx2 k2
      go_wp2_with fail
      refine (H2.out _).mono ?_
      rintro e w4 ⟨rfl, hb4⟩
      go_wp2_with fail
      go_ret
      exact ⟨HF.out 0 rfl, k3.trans (hb4.mono k3.size)⟩

set_option maxRecDepth 100000 in
theorem tconv_any (key : Int) (v : ByteArray) (w : World) :
    Calls Try.prog 14 #[.int .i64 key, .string v] w fun e w' => e = .returned (.int .i64 (convE key v)) ∧ Below w.heap.size w w' := by
  cases hk : Pl.keyB key with
  | false =>
    have he : convE key v = 2 := by unfold convE; rw [hk]; rfl
    rw [he]
    exact tconv_key key v w hk
  | true =>
    cases hv : evB v with
    | false =>
      have he : convE key v = 3 := by
        unfold convE
        rw [hk, if_neg (by simp)]
        unfold evB at hv
        by_cases h1 : v.size = 23
        · rw [if_neg (not_not_intro h1)]
          by_cases h2 : Pl.byt v 0 = 86
          · rw [if_neg (not_not_intro h2)]
            cases h3 : Pl.headB (v.extract 1 12) with
            | false => rfl
            | true =>
              rw [if_neg (by simp)]
              cases h4 : Pl.headB (v.extract 12 23) with
              | false => rfl
              | true =>
                rw [if_neg (by simp)]
                by_cases h5 : Pl.hSize (v.extract 1 12) = Pl.hSize (v.extract 12 23)
                · rw [if_neg (not_not_intro h5)]
                  cases h6 : Op.bytesLess (Pl.hRoot (v.extract 1 12)).toList (Pl.hRoot (v.extract 12 23)).toList with
                  | false => rfl
                  | true => simp [h1, h2, h3, h4, h5, h6] at hv
                · rw [if_pos h5]
          · rw [if_pos h2]
        · rw [if_pos h1]
      rw [he]
      exact tconv_bytes key v w hk hv
    | true =>
      obtain ⟨k, rfl, hkl⟩ := keyB_lt hk
      have hv' := hv
      unfold evB at hv'
      simp only [Bool.and_eq_true, decide_eq_true_iff] at hv'
      obtain ⟨h1, h2, h3, h4, h5, h6⟩ := hv'
      have HR := fun w => trevid_any v w
      have e1 : evV1 v = readV (v.extract 1 12) := if_pos hv
      have e2 : evV2 v = readV (v.extract 12 23) := if_pos hv
      rw [e1, e2, hv, readV_yes h3, readV_yes h4] at HR
      obtain ⟨_, _, ha1, ha2, ha3, ha4⟩ := headB_parts h3
      obtain ⟨_, _, hb1, hb2, hb3, hb4⟩ := headB_parts h4
      have H1 := fun w => tright_any k (Pl.hSize (v.extract 1 12)) (Pl.hC (v.extract 1 12)) (Pl.hS (v.extract 1 12)) (Pl.hRoot (v.extract 1 12)) w hkl ha1 (isSumB_size ha2) ha3 ha4
      have H2 := fun w => tright_any k (Pl.hSize (v.extract 12 23)) (Pl.hC (v.extract 12 23)) (Pl.hS (v.extract 12 23)) (Pl.hRoot (v.extract 12 23)) w hkl hb1 (isSumB_size hb2) hb3 hb4
      have h := tconv_sign k v _ _ _ _ _ _ _ _ _ _ w hk HR H1 H2
      refine h.mono fun e w' ⟨he, hb⟩ => ⟨?_, hb⟩
      rw [he]
      have hc : convE (k : Int) v = if Pl.rightB k (v.extract 1 12) = false then 4 else if Pl.rightB k (v.extract 12 23) = false then 4 else 0 := by
        unfold convE
        rw [hk, if_neg (by simp), if_neg (not_not_intro h1), if_neg (not_not_intro h2), if_neg (by simp [h3]), if_neg (by simp [h4]), if_neg (not_not_intro h5), if_neg (by simp [h6]), Int.toNat_natCast]
      rw [hc]
      rfl

end Go.Proofs.Ytkhnjipjbhcgdab
