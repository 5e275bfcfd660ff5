import Derived.Test.YtkhnjipjbhcgdabTRead
import Derived.Test.YtkhnjipjbhcgdabAns
/-
  THE WALKS of (Signed).Right, treehead.open, Key, Sign, Open.
-/
namespace Go.Proofs.Ytkhnjipjbhcgdab
open Go.RowKit Hp

set_option maxRecDepth 100000 in
set_option maxHeartbeats 4000000 in
theorem tright_any (key size c s : Nat) (root : ByteArray) (w : World) (hk : key < 2039) (hs : size ≤ 40) (hz : root.size = 4) (hc : c < 1019) (hd : s < 1019) :
    Calls Try.prog 38 #[.agg #[.int .i64 size, .string root, .int .i64 c, .int .i64 s], .int .i64 key] w fun e w' => e = .returned (.bool (decide (Pl.said key (Pl.powM 4 s * Pl.powM key c % 2039) size root = c))) ∧ Below w.heap.size w w' := by
  have HP1 : Hid (∀ w, Calls Try.prog 53 #[.int .i64 4, .int .i64 s] w fun e w' => e = .returned (.int .i64 (Pl.powM 4 s : Nat)) ∧ w' = w) := fun w => tpower_any 4 s w (by omega) (by omega)
  have HP2 : Hid (∀ w, Calls Try.prog 53 #[.int .i64 key, .int .i64 c] w fun e w' => e = .returned (.int .i64 (Pl.powM key c : Nat)) ∧ w' = w) := fun w => tpower_any key c w hk (by omega)
  have p1 := Pl.powM_lt 4 s
  have p2 := Pl.powM_lt key c
  have hr : Pl.powM 4 s * Pl.powM key c % 2039 < 2039 := Nat.mod_lt _ (by omega)
  have HS : Hid (∀ w, Calls Try.prog 54 #[.int .i64 ((Pl.powM 4 s * Pl.powM key c % 2039 : Nat) : Int), .int .i64 key, .agg #[.int .i64 size, .string root]] w fun e w' => e = .returned (.int .i64 (Pl.said key (Pl.powM 4 s * Pl.powM key c % 2039) size root : Nat)) ∧ Below w.heap.size w w') := fun w => tsaid_any _ _ size root w (by omega) (by omega) (by omega) hz
  have HM : Hid (((Pl.powM 4 s * Pl.powM key c % 2039 : Nat) : Int) = (Pl.powM 4 s : Int) * (Pl.powM key c : Int) % 2039) := by
    show _ = _
    rw [Int.natCast_emod, Int.natCast_mul]; rfl
  rw [HM.out] at HS
  have m2 : (Pl.powM 4 s : Int) * (Pl.powM key c : Int) ≤ 4157521 ∧ 0 ≤ (Pl.powM 4 s : Int) * (Pl.powM key c : Int) := by
    have h2 : Pl.powM 4 s * Pl.powM key c ≤ 2039 * 2039 := Nat.mul_le_mul (by omega) (by omega)
    have h3 : ((Pl.powM 4 s * Pl.powM key c : Nat) : Int) ≤ 4157521 := by omega
    rw [Int.natCast_mul] at h3
    exact ⟨h3, Int.mul_nonneg (by omega) (by omega)⟩
  generalize Pl.said key (Pl.powM 4 s * Pl.powM key c % 2039) size root = C at *
  have HB : Hid (decide (C = c) = ((C : Int) == (c : Int))) := by
    show _ = _
    rw [Bool.eq_iff_iff, decide_eq_true_iff, beq_iff_eq]
    omega
  clear HM hr
  generalize Pl.powM 4 s = P1 at *
  generalize Pl.powM key c = P2 at *
  go_enter Try.func38, Try.ntmps38
  go_wp2_with fail
  go_quiet (first
    | (go_at_call_of 53 (Value.int .i64 (s : Int)); exact Calls.quiet_of_same (HP1.out _))
    | (go_at_call_of 53 (Value.int .i64 (c : Int)); exact Calls.quiet_of_same (HP2.out _)))
  go_wp2_with fail
  have hk0 : Below w.heap.size w ((w.alloc (.cells #[.int .i64 size, .string root, .int .i64 c, .int .i64 s] 65)).drewN nq) := below_drewN ((Below.refl _ _).alloc (Nat.le_refl _) _) nq
  have hx0 : Box ((w.alloc (.cells #[.int .i64 size, .string root, .int .i64 c, .int .i64 s] 65)).drewN nq) w.heap.size 65 [.int .i64 size, .string root, .int .i64 c, .int .i64 s] := Box.new w 65 [.int .i64 size, .string root, .int .i64 c, .int .i64 s]
  generalize (w.alloc (.cells #[.int .i64 size, .string root, .int .i64 c, .int .i64 s] 65)).drewN nq = W at *
  have hx1 := hx0.drew
  have q00 := hx1.cell 0
  have q01 := hx1.cell 1
  have q02 := hx1.cell 2
  have q03 := hx1.cell 3
  go_region_held3 (fun w' => w'.cell? ⟨w.heap.size, 0, none⟩ = some (.int .i64 size) ∧ w'.cell? ⟨w.heap.size, 1, none⟩ = some (.string root) ∧ w'.cell? ⟨w.heap.size, 2, none⟩ = some (.int .i64 c) ∧ w'.cell? ⟨w.heap.size, 3, none⟩ = some (.int .i64 s)) (go_keep) (first
    | (go_at_call 54; refine (HS.out _).mono ?_; rintro e w2 ⟨rfl, hb2⟩; obtain ⟨q20, q21, q22, q23, hz2⟩ := keep4 hb2 hx1.lt q00 q01 q02 q03))
  all_goals
    go_wp2_with fail
    go_ret
    exact ⟨ret_bool HB.out.symm, hk0.drew.trans (hb2.mono (by have := hx1.lt; simp at this ⊢; omega))⟩

theorem readV_no {b : ByteArray} (h : Pl.headB b = false) : readV b = .agg #[.int .i64 0, .string ⟨#[]⟩, .int .i64 0, .int .i64 0] := by
  unfold readV
  rw [h]
  rfl
theorem readV_yes {b : ByteArray} (h : Pl.headB b = true) : readV b = .agg #[.int .i64 (Pl.hSize b : Nat), .string (Pl.hRoot b), .int .i64 (Pl.hC b : Nat), .int .i64 (Pl.hS b : Nat)] := by
  unfold readV
  rw [h]
  rfl
theorem headB_parts {b : ByteArray} (h : Pl.headB b = true) : b.size = 11 ∧ Pl.byt b 0 = 72 ∧ Pl.hSize b ≤ 40 ∧ Pl.isSumB (Pl.hRoot b) = true ∧ Pl.hC b < 1019 ∧ Pl.hS b < 1019 := by
  unfold Pl.headB at h
  simp only [Bool.and_eq_true, decide_eq_true_iff] at h
  exact ⟨h.1, h.2.1.1.1.1, h.2.1.1.1.2, h.2.1.1.2, h.2.1.2, h.2.2⟩
theorem keyB_lt {key : Int} (h : Pl.keyB key = true) : ∃ k : Nat, key = (k : Int) ∧ k < 2039 := by
  obtain ⟨k, _, _, hk⟩ := Pl.keyB_yes h
  have := Pl.powM_lt 4 k
  exact ⟨Pl.powM 4 k, hk.symm, this⟩

/-- What open gives: the signed head that it read, if there is no error. -/
def openV (key : Int) (b : ByteArray) : Value := if openE key b = 0 then readV b else .agg #[.int .i64 0, .string ⟨#[]⟩, .int .i64 0, .int .i64 0]

set_option maxRecDepth 100000 in
set_option maxHeartbeats 4000000 in
theorem topenin_any (key : Int) (b : ByteArray) (w : World) :
    Calls Try.prog 34 #[.int .i64 key, .string b] w fun e w' => e = .returned (.tuple #[openV key b, .int .i64 (openE key b)]) ∧ Below w.heap.size w w' := by
  have HK : Hid _ := fun w => tiskey_any key w
  have HR : Hid _ := fun w => tread_any b w
  have hB0 := below_box w
  have hx0 := Box.new w 65 [.int .i64 0, .string ⟨#[]⟩, .int .i64 0, .int .i64 0]
  have HE : Hid (openE key b = if Pl.keyB key = false then 2 else if Pl.headB b = false then 3 else if Pl.rightB key.toNat b = false then 4 else 0) := rfl
  have HV : Hid (openV key b = if openE key b = 0 then readV b else .agg #[.int .i64 0, .string ⟨#[]⟩, .int .i64 0, .int .i64 0]) := rfl
  cases hkey : Pl.keyB key with
  | false =>
    have HE2 : Hid (openE key b = 2) := by show _ = _; rw [HE.out, hkey]; rfl
    have HV2 : Hid (openV key b = .agg #[.int .i64 0, .string ⟨#[]⟩, .int .i64 0, .int .i64 0]) := by show _ = _; rw [HV.out, HE2.out]; rfl
    rw [hkey] at HK
    clear HE HV hkey HR
    go_enter Try.func34, Try.ntmps34
    go_wp2_with fail
    refine (HK.out _).mono ?_
    rintro e w1 ⟨rfl, rfl⟩
    go_wp2_with fail
    rw [HE2.out, HV2.out]
    refine bodyPost_ret (v := .tuple #[.agg #[.int .i64 0, .string ⟨#[]⟩, .int .i64 0, .int .i64 0], .int .i64 2]) (by simp [results, Try.results34, go_sem]) rfl ⟨rfl, ?_⟩
    first | exact hB0 | exact (((hB0.setCell (Nat.le_refl _) _).setCell (Nat.le_refl _) _).setCell (Nat.le_refl _) _).setCell (Nat.le_refl _) _
  | true =>
    rw [hkey] at HK
    cases hh : Pl.headB b with
    | false =>
      have HE2 : Hid (openE key b = 3) := by show _ = _; rw [HE.out, hkey, hh]; rfl
      have HV2 : Hid (openV key b = .agg #[.int .i64 0, .string ⟨#[]⟩, .int .i64 0, .int .i64 0]) := by show _ = _; rw [HV.out, HE2.out]; rfl
      rw [hh, readV_no hh] at HR
      clear HE HV hkey hh
      go_enter Try.func34, Try.ntmps34
      go_wp2_with fail
      refine (HK.out _).mono ?_
      rintro e w1 ⟨rfl, rfl⟩
      go_wp2_with fail
      refine (HR.out _).mono ?_
      rintro e w2 ⟨rfl, hb2⟩
      have hx2 := hx0.grow hb2 (by simp)
      have k2 : Below w.heap.size w w2 := hB0.trans (hb2.mono (by simp))
      have c0 := hx2.cell 0
      have c1 := hx2.cell 1
      have c2 := hx2.cell 2
      have c3 := hx2.cell 3
      have f0 := hx2.frozen 0
      have f1 := hx2.frozen 1
      have f2 := hx2.frozen 2
      have f3 := hx2.frozen 3
      have hl2 := hx2.lt
      have hne : ¬ w.heap.size = w2.heap.size := by omega
      clear hb2 hx0 hB0 hx2
      go_wp2_with fail
      rw [HE2.out, HV2.out]
      refine bodyPost_ret (v := .tuple #[.agg #[.int .i64 0, .string ⟨#[]⟩, .int .i64 0, .int .i64 0], .int .i64 3]) (by simp [results, Try.results34, go_sem, c0, c1, c2, c3, hl2]) rfl ⟨rfl, ?_⟩
      exact ((((k2.setCell (Nat.le_refl _) _).setCell (Nat.le_refl _) _).setCell (Nat.le_refl _) _).setCell (Nat.le_refl _) _).alloc (by simp; omega) _
    | true =>
      obtain ⟨k, rfl, hk⟩ := keyB_lt hkey
      obtain ⟨_, _, h40, hsum, hC, hS⟩ := headB_parts hh
      have hz := isSumB_size hsum
      have HQ : Hid (∀ w, Calls Try.prog 38 #[.agg #[.int .i64 (Pl.hSize b : Nat), .string (Pl.hRoot b), .int .i64 (Pl.hC b : Nat), .int .i64 (Pl.hS b : Nat)], .int .i64 k] w fun e w' => e = .returned (.bool (Pl.rightB k b)) ∧ Below w.heap.size w w') := fun w => tright_any k _ _ _ _ w hk h40 hz hC hS
      rw [hh, readV_yes hh] at HR
      rw [hkey, hh, Int.toNat_natCast] at HE
      have hv := readV_yes hh
      clear hkey hh h40 hsum hC hS hz
      generalize Pl.hSize b = n at *
      generalize Pl.hRoot b = r at *
      generalize Pl.hC b = c at *
      generalize Pl.hS b = s at *
      have HVV : Hid _ := hv
      clear hv
      cases hr : Pl.rightB k b with
      | false =>
        have HE2 : Hid (openE (k : Int) b = 4) := by show _ = _; rw [HE.out, hr]; rfl
        have HV2 : Hid (openV (k : Int) b = .agg #[.int .i64 0, .string ⟨#[]⟩, .int .i64 0, .int .i64 0]) := by show _ = _; rw [HV.out, HE2.out]; rfl
        rw [hr] at HQ
        clear HE HV hr
        go_enter Try.func34, Try.ntmps34
        go_wp2_with fail
        refine (HK.out _).mono ?_
        rintro e w1 ⟨rfl, rfl⟩
        go_wp2_with fail
        refine (HR.out _).mono ?_
        rintro e w2 ⟨rfl, hb2⟩
        have hx2 := hx0.grow hb2 (by simp)
        have k2 : Below w.heap.size w w2 := hB0.trans (hb2.mono (by simp))
        have hl2 := hx2.lt
        clear hb2 hx0 hB0
        go_wp2_with fail
        refine (HQ.out _).mono ?_
        rintro e w3 ⟨rfl, hb3⟩
        have hx3 := (hx2.alloc (.cells #[.int .i64 n, .string r, .int .i64 c, .int .i64 s] 65)).grow hb3 (by simp; omega)
        have k3 : Below w.heap.size w w3 := (k2.alloc (by omega) _).trans (hb3.mono (by simp; omega))
        have c0 := hx3.cell 0
        have c1 := hx3.cell 1
        have c2 := hx3.cell 2
        have c3 := hx3.cell 3
        have f0 := hx3.frozen 0
        have f1 := hx3.frozen 1
        have f2 := hx3.frozen 2
        have f3 := hx3.frozen 3
        clear hb3 hx2 k2
        go_wp2_with fail
        rw [HE2.out, HV2.out]
        refine bodyPost_ret (v := .tuple #[.agg #[.int .i64 0, .string ⟨#[]⟩, .int .i64 0, .int .i64 0], .int .i64 4]) (by simp [results, Try.results34, go_sem, c0, c1, c2, c3]) rfl ⟨rfl, ?_⟩
        exact (((k3.setCell (Nat.le_refl _) _).setCell (Nat.le_refl _) _).setCell (Nat.le_refl _) _).setCell (Nat.le_refl _) _
      | true =>
        have HE2 : Hid (openE (k : Int) b = 0) := by show _ = _; rw [HE.out, hr]; rfl
        have HV2 : Hid (openV (k : Int) b = .agg #[.int .i64 (n : Nat), .string r, .int .i64 (c : Nat), .int .i64 (s : Nat)]) := by show _ = _; rw [HV.out, HE2.out]; exact HVV.out
        rw [hr] at HQ
        clear HE HV hr
        go_enter Try.func34, Try.ntmps34
        go_wp2_with fail
        refine (HK.out _).mono ?_
        rintro e w1 ⟨rfl, rfl⟩
        go_wp2_with fail
        refine (HR.out _).mono ?_
        rintro e w2 ⟨rfl, hb2⟩
        have hx2 := hx0.grow hb2 (by simp)
        have k2 : Below w.heap.size w w2 := hB0.trans (hb2.mono (by simp))
        have hl2 := hx2.lt
        clear hb2 hx0 hB0
        go_wp2_with fail
        refine (HQ.out _).mono ?_
        rintro e w3 ⟨rfl, hb3⟩
        have hx3 := (hx2.alloc (.cells #[.int .i64 n, .string r, .int .i64 c, .int .i64 s] 65)).grow hb3 (by simp; omega)
        have hy3 := (Box.new w2 65 [.int .i64 n, .string r, .int .i64 c, .int .i64 s]).grow hb3 (by simp)
        have k3 : Below w.heap.size w w3 := (k2.alloc (by omega) _).trans (hb3.mono (by simp; omega))
        have c0 := hx3.cell 0
        have c1 := hx3.cell 1
        have c2 := hx3.cell 2
        have c3 := hx3.cell 3
        have f0 := hx3.frozen 0
        have f1 := hx3.frozen 1
        have f2 := hx3.frozen 2
        have f3 := hx3.frozen 3
        have d0 := hy3.cell 0
        have d1 := hy3.cell 1
        have d2 := hy3.cell 2
        have d3 := hy3.cell 3
        clear hb3 hx2 k2
        go_wp2_with fail
        rw [HE2.out, HV2.out]
        refine bodyPost_ret (v := .tuple #[.agg #[.int .i64 (n : Nat), .string r, .int .i64 (c : Nat), .int .i64 (s : Nat)], .int .i64 0]) (by simp [results, Try.results34, go_sem, c0, c1, c2, c3]) rfl ⟨rfl, ?_⟩
        exact (((k3.setCell (Nat.le_refl _) _).setCell (Nat.le_refl _) _).setCell (Nat.le_refl _) _).setCell (Nat.le_refl _) _

set_option maxRecDepth 100000 in
set_option maxHeartbeats 400000 in
theorem tkey_any (secret : Int) (w : World) : Calls Try.prog 10 #[.int .i64 secret] w fun e w' => e = .returned (keyAns secret) ∧ Below w.heap.size w w' := by
  have HS : Hid _ := fun w => tissecret_any secret w
  by_cases h : 1 ≤ secret ∧ secret ≤ 1018
  · obtain ⟨k, rfl⟩ : ∃ k : Nat, secret = (k : Int) := ⟨secret.toNat, by omega⟩
    have HK : Hid _ := fun w => tkeyof_any k w (by omega)
    have HA : Hid (keyAns (k : Int) = .tuple #[.int .i64 (Pl.powM 4 k : Nat), .int .i64 0]) := by show _ = _; unfold keyAns; rw [if_pos h, Int.toNat_natCast]
    rw [decide_eq_true h.1, decide_eq_true h.2] at HS
    go_enter Try.func10, Try.ntmps10
    go_wp2_with fail
    refine (HS.out _).mono ?_
    rintro e w1 ⟨rfl, rfl⟩
    go_wp2_with fail
    refine (HK.out _).mono ?_
    rintro e w1 ⟨rfl, rfl⟩
    go_wp2_with fail
    rw [HA.out]
    go_ret2
    exact ⟨rfl, Below.refl _ _⟩
  · have HA : Hid (keyAns secret = .tuple #[.int .i64 0, .int .i64 1]) := if_neg h
    have hf : (decide (1 ≤ secret) && decide (secret ≤ 1018)) = false := by
      cases hb : (decide (1 ≤ secret) && decide (secret ≤ 1018)) with
      | false => rfl
      | true =>
        rw [Bool.and_eq_true, decide_eq_true_iff, decide_eq_true_iff] at hb
        exact absurd hb h
    rw [hf] at HS
    go_enter Try.func10, Try.ntmps10
    go_wp2_with fail
    refine (HS.out _).mono ?_
    rintro e w1 ⟨rfl, rfl⟩
    go_wp2_with fail
    rw [HA.out]
    go_ret2
    exact ⟨rfl, Below.refl _ _⟩

end Go.Proofs.Ytkhnjipjbhcgdab
