import Derived.Test.YtkhnjipjbhcgdaaGreatAns
import Derived.Test.YtkhnjipjbhcgdaaGreatAns2
/-
  THE WALKS of (Signed).Right, treehead.open, Key, Sign, Open.
-/
namespace Go.Proofs.YtkhnjipjbhcgdaaGreat
open Go.RowKit Hp

set_option maxRecDepth 100000 in
set_option maxHeartbeats 4000000 in
theorem tright_any (key size c s : Nat) (root : ByteArray) (w : World) (hk : key < 2039) (hs : size ≤ 40) (hz : root.size = 4) (hc : c < 1019) (hd : s < 1019) :
    Calls Tryz.prog 75 #[.agg #[.int .i64 size, .string root, .int .i64 c, .int .i64 s], .int .i64 key] w fun e w' => e = .returned (.bool (decide (Pl.said key (Pl.powM 4 s * Pl.powM key c % 2039) size root = c))) ∧ Below w.heap.size w w' := by
  have HP1 : Hid (∀ w, Calls Tryz.prog 44 #[.int .i64 4, .int .i64 s] w fun e w' => e = .returned (.int .i64 (Pl.powM 4 s : Nat)) ∧ w' = w) := fun w => tpower_any 4 s w (by omega) (by omega)
  have HP2 : Hid (∀ w, Calls Tryz.prog 44 #[.int .i64 key, .int .i64 c] w fun e w' => e = .returned (.int .i64 (Pl.powM key c : Nat)) ∧ w' = w) := fun w => tpower_any key c w hk (by omega)
  have p1 := Pl.powM_lt 4 s
  have p2 := Pl.powM_lt key c
  have hr : Pl.powM 4 s * Pl.powM key c % 2039 < 2039 := Nat.mod_lt _ (by omega)
  have HS : Hid (∀ w, Calls Tryz.prog 87 #[.int .i64 ((Pl.powM 4 s * Pl.powM key c % 2039 : Nat) : Int), .int .i64 key, .agg #[.int .i64 size, .string root]] w fun e w' => e = .returned (.int .i64 (Pl.said key (Pl.powM 4 s * Pl.powM key c % 2039) size root : Nat)) ∧ Below w.heap.size w w') := fun w => tsaid_any _ _ size root w (by omega) (by omega) (by omega) hz
  have HM : Hid (((Pl.powM 4 s * Pl.powM key c % 2039 : Nat) : Int) = (Pl.powM 4 s : Int) * (Pl.powM key c : Int) % 2039) := by
    show _ = _
    rw [Int.natCast_emod, Int.natCast_mul]; rfl
  rw [HM.out] at HS
  have m2 : (Pl.powM 4 s : Int) * (Pl.powM key c : Int) ≤ 4157521 ∧ 0 ≤ (Pl.powM 4 s : Int) * (Pl.powM key c : Int) := by
    have h2 : Pl.powM 4 s * Pl.powM key c ≤ 2039 * 2039 := Nat.mul_le_mul (by omega) (by omega)
    have h3 : ((Pl.powM 4 s * Pl.powM key c : Nat) : Int) ≤ 4157521 := by omega
    rw [Int.natCast_mul] at h3
    exact ⟨h3, Int.mul_nonneg (by omega) (by omega)⟩
  generalize Pl.said key (Pl.powM 4 s * Pl.powM key c % 2039) size root = C at *
  have HB : Hid (decide (C = c) = ((C : Int) == (c : Int))) := by
    show _ = _
    rw [Bool.eq_iff_iff, decide_eq_true_iff, beq_iff_eq]
    omega
  clear HM hr
  generalize Pl.powM 4 s = P1 at *
  generalize Pl.powM key c = P2 at *
  go_enter Tryz.func75, Tryz.ntmps75
  go_wp2_with fail
  go_quiet (first
    | (go_at_call_of 44 (Value.int .i64 (s : Int)); exact Calls.quiet_of_same (HP1.out _))
    | (go_at_call_of 44 (Value.int .i64 (c : Int)); exact Calls.quiet_of_same (HP2.out _)))
  go_wp2_with fail
  have hk0 : Below w.heap.size w ((w.alloc (.cells #[.int .i64 size, .string root, .int .i64 c, .int .i64 s] 91)).drewN nq) := below_drewN ((Below.refl _ _).alloc (Nat.le_refl _) _) nq
  have hx0 : Box ((w.alloc (.cells #[.int .i64 size, .string root, .int .i64 c, .int .i64 s] 91)).drewN nq) w.heap.size 91 [.int .i64 size, .string root, .int .i64 c, .int .i64 s] := Box.new w 91 [.int .i64 size, .string root, .int .i64 c, .int .i64 s]
  generalize (w.alloc (.cells #[.int .i64 size, .string root, .int .i64 c, .int .i64 s] 91)).drewN nq = W at *
  have hx1 := hx0.drew
  have q00 := hx1.cell 0
  have q01 := hx1.cell 1
  have q02 := hx1.cell 2
  have q03 := hx1.cell 3
  go_region_held3 (fun w' => w'.cell? ⟨w.heap.size, 0, none⟩ = some (.int .i64 size) ∧ w'.cell? ⟨w.heap.size, 1, none⟩ = some (.string root) ∧ w'.cell? ⟨w.heap.size, 2, none⟩ = some (.int .i64 c) ∧ w'.cell? ⟨w.heap.size, 3, none⟩ = some (.int .i64 s)) (go_keep) (first
    | (go_at_call 87; refine (HS.out _).mono ?_; rintro e w2 ⟨rfl, hb2⟩; obtain ⟨q20, q21, q22, q23, hz2⟩ := keep4 hb2 hx1.lt q00 q01 q02 q03))
  all_goals
    go_wp2_with fail
    go_ret
    exact ⟨ret_bool HB.out.symm, hk0.drew.trans (hb2.mono (by have := hx1.lt; simp at this ⊢; omega))⟩

theorem readV_no {b : ByteArray} (h : Pl.headB b = false) : readV b = .agg #[.int .i64 0, .string ⟨#[]⟩, .int .i64 0, .int .i64 0] := by
  unfold readV
  rw [h]
  rfl
theorem readV_yes {b : ByteArray} (h : Pl.headB b = true) : readV b = .agg #[.int .i64 (Pl.hSize b : Nat), .string (Pl.hRoot b), .int .i64 (Pl.hC b : Nat), .int .i64 (Pl.hS b : Nat)] := by
  unfold readV
  rw [h]
  rfl
theorem headB_parts {b : ByteArray} (h : Pl.headB b = true) : b.size = 11 ∧ Pl.byt b 0 = 72 ∧ Pl.hSize b ≤ 40 ∧ Pl.isSumB (Pl.hRoot b) = true ∧ Pl.hC b < 1019 ∧ Pl.hS b < 1019 := by
  unfold Pl.headB at h
  simp only [Bool.and_eq_true, decide_eq_true_iff] at h
  exact ⟨h.1, h.2.1.1.1.1, h.2.1.1.1.2, h.2.1.1.2, h.2.1.2, h.2.2⟩
theorem keyB_lt {key : Int} (h : Pl.keyB key = true) : ∃ k : Nat, key = (k : Int) ∧ k < 2039 := by
  obtain ⟨k, _, _, hk⟩ := Pl.keyB_yes h
  have := Pl.powM_lt 4 k
  exact ⟨Pl.powM 4 k, hk.symm, this⟩

/-- What open gives: the signed head that it read, if there is no error. -/
def openV (key : Int) (b : ByteArray) : Value := if openE key b = 0 then readV b else .agg #[.int .i64 0, .string ⟨#[]⟩, .int .i64 0, .int .i64 0]

set_option maxRecDepth 100000 in
set_option maxHeartbeats 4000000 in
theorem topenin_any (key : Int) (b : ByteArray) (w : World) :
    Calls Tryz.prog 63 #[.int .i64 key, .string b] w fun e w' => e = .returned (.tuple #[openV key b, .int .i64 (openE key b)]) ∧ Below w.heap.size w w' := by
  have HK : Hid _ := fun w => tiskey_any key w
  have HR : Hid _ := fun w => tread_any b w
  have hB0 := below_box w
  have hx0 := Box.new w 91 [.int .i64 0, .string ⟨#[]⟩, .int .i64 0, .int .i64 0]
  have HE : Hid (openE key b = if Pl.keyB key = false then 2 else if Pl.headB b = false then 3 else if Pl.rightB key.toNat b = false then 4 else 0) := rfl
  have HV : Hid (openV key b = if openE key b = 0 then readV b else .agg #[.int .i64 0, .string ⟨#[]⟩, .int .i64 0, .int .i64 0]) := rfl
  cases hkey : Pl.keyB key with
  | false =>
    have HE2 : Hid (openE key b = 2) := by show _ = _; rw [HE.out, hkey]; rfl
    have HV2 : Hid (openV key b = .agg #[.int .i64 0, .string ⟨#[]⟩, .int .i64 0, .int .i64 0]) := by show _ = _; rw [HV.out, HE2.out]; rfl
    rw [hkey] at HK
    clear HE HV hkey HR
    go_enter Tryz.func63, Tryz.ntmps63
    go_wp2_with fail
    refine (HK.out _).mono ?_
    rintro e w1 ⟨rfl, rfl⟩
    go_wp2_with fail
    rw [HE2.out, HV2.out]
    refine bodyPost_ret (v := .tuple #[.agg #[.int .i64 0, .string ⟨#[]⟩, .int .i64 0, .int .i64 0], .int .i64 2]) (by simp [results, Tryz.results63, go_sem]) rfl ⟨rfl, ?_⟩
    first | exact hB0 | exact (((hB0.setCell (Nat.le_refl _) _).setCell (Nat.le_refl _) _).setCell (Nat.le_refl _) _).setCell (Nat.le_refl _) _
  | true =>
    rw [hkey] at HK
    cases hh : Pl.headB b with
    | false =>
      have HE2 : Hid (openE key b = 3) := by show _ = _; rw [HE.out, hkey, hh]; rfl
      have HV2 : Hid (openV key b = .agg #[.int .i64 0, .string ⟨#[]⟩, .int .i64 0, .int .i64 0]) := by show _ = _; rw [HV.out, HE2.out]; rfl
      rw [hh, readV_no hh] at HR
      clear HE HV hkey hh
      go_enter Tryz.func63, Tryz.ntmps63
      go_wp2_with fail
      refine (HK.out _).mono ?_
      rintro e w1 ⟨rfl, rfl⟩
      go_wp2_with fail
      refine (HR.out _).mono ?_
      rintro e w2 ⟨rfl, hb2⟩
      have hx2 := hx0.grow hb2 (by simp)
      have k2 : Below w.heap.size w w2 := hB0.trans (hb2.mono (by simp))
      have c0 := hx2.cell 0
      have c1 := hx2.cell 1
      have c2 := hx2.cell 2
      have c3 := hx2.cell 3
      have f0 := hx2.frozen 0
      have f1 := hx2.frozen 1
      have f2 := hx2.frozen 2
      have f3 := hx2.frozen 3
      have hl2 := hx2.lt
      have hne : ¬ w.heap.size = w2.heap.size := by omega
      clear hb2 hx0 hB0 hx2
      go_wp2_with fail
      rw [HE2.out, HV2.out]
      refine bodyPost_ret (v := .tuple #[.agg #[.int .i64 0, .string ⟨#[]⟩, .int .i64 0, .int .i64 0], .int .i64 3]) (by simp [results, Tryz.results63, go_sem, c0, c1, c2, c3, hl2]) rfl ⟨rfl, ?_⟩
      exact ((((k2.setCell (Nat.le_refl _) _).setCell (Nat.le_refl _) _).setCell (Nat.le_refl _) _).setCell (Nat.le_refl _) _).alloc (by simp; omega) _
    | true =>
      obtain ⟨k, rfl, hk⟩ := keyB_lt hkey
      obtain ⟨_, _, h40, hsum, hC, hS⟩ := headB_parts hh
      have hz := isSumB_size hsum
      have HQ : Hid (∀ w, Calls Tryz.prog 75 #[.agg #[.int .i64 (Pl.hSize b : Nat), .string (Pl.hRoot b), .int .i64 (Pl.hC b : Nat), .int .i64 (Pl.hS b : Nat)], .int .i64 k] w fun e w' => e = .returned (.bool (Pl.rightB k b)) ∧ Below w.heap.size w w') := fun w => tright_any k _ _ _ _ w hk h40 hz hC hS
      rw [hh, readV_yes hh] at HR
      rw [hkey, hh, Int.toNat_natCast] at HE
      have hv := readV_yes hh
      clear hkey hh h40 hsum hC hS hz
      generalize Pl.hSize b = n at *
      generalize Pl.hRoot b = r at *
      generalize Pl.hC b = c at *
      generalize Pl.hS b = s at *
      have HVV : Hid _ := hv
      clear hv
      cases hr : Pl.rightB k b with
      | false =>
        have HE2 : Hid (openE (k : Int) b = 4) := by show _ = _; rw [HE.out, hr]; rfl
        have HV2 : Hid (openV (k : Int) b = .agg #[.int .i64 0, .string ⟨#[]⟩, .int .i64 0, .int .i64 0]) := by show _ = _; rw [HV.out, HE2.out]; rfl
        rw [hr] at HQ
        clear HE HV hr
        go_enter Tryz.func63, Tryz.ntmps63
        go_wp2_with fail
        refine (HK.out _).mono ?_
        rintro e w1 ⟨rfl, rfl⟩
        go_wp2_with fail
        refine (HR.out _).mono ?_
        rintro e w2 ⟨rfl, hb2⟩
        have hx2 := hx0.grow hb2 (by simp)
        have k2 : Below w.heap.size w w2 := hB0.trans (hb2.mono (by simp))
        have hl2 := hx2.lt
        clear hb2 hx0 hB0
        go_wp2_with fail
        refine (HQ.out _).mono ?_
        rintro e w3 ⟨rfl, hb3⟩
        have hx3 := (hx2.alloc (.cells #[.int .i64 n, .string r, .int .i64 c, .int .i64 s] 91)).grow hb3 (by simp; omega)
        have k3 : Below w.heap.size w w3 := (k2.alloc (by omega) _).trans (hb3.mono (by simp; omega))
        have c0 := hx3.cell 0
        have c1 := hx3.cell 1
        have c2 := hx3.cell 2
        have c3 := hx3.cell 3
        have f0 := hx3.frozen 0
        have f1 := hx3.frozen 1
        have f2 := hx3.frozen 2
        have f3 := hx3.frozen 3
        clear hb3 hx2 k2
        go_wp2_with fail
        rw [HE2.out, HV2.out]
        refine bodyPost_ret (v := .tuple #[.agg #[.int .i64 0, .string ⟨#[]⟩, .int .i64 0, .int .i64 0], .int .i64 4]) (by simp [results, Tryz.results63, go_sem, c0, c1, c2, c3]) rfl ⟨rfl, ?_⟩
        exact (((k3.setCell (Nat.le_refl _) _).setCell (Nat.le_refl _) _).setCell (Nat.le_refl _) _).setCell (Nat.le_refl _) _
      | true =>
        have HE2 : Hid (openE (k : Int) b = 0) := by show _ = _; rw [HE.out, hr]; rfl
        have HV2 : Hid (openV (k : Int) b = .agg #[.int .i64 (n : Nat), .string r, .int .i64 (c : Nat), .int .i64 (s : Nat)]) := by show _ = _; rw [HV.out, HE2.out]; exact HVV.out
        rw [hr] at HQ
        clear HE HV hr
        go_enter Tryz.func63, Tryz.ntmps63
        go_wp2_with fail
        refine (HK.out _).mono ?_
        rintro e w1 ⟨rfl, rfl⟩
        go_wp2_with fail
        refine (HR.out _).mono ?_
        rintro e w2 ⟨rfl, hb2⟩
        have hx2 := hx0.grow hb2 (by simp)
        have k2 : Below w.heap.size w w2 := hB0.trans (hb2.mono (by simp))
        have hl2 := hx2.lt
        clear hb2 hx0 hB0
        go_wp2_with fail
        refine (HQ.out _).mono ?_
        rintro e w3 ⟨rfl, hb3⟩
        have hx3 := (hx2.alloc (.cells #[.int .i64 n, .string r, .int .i64 c, .int .i64 s] 91)).grow hb3 (by simp; omega)
        have hy3 := (Box.new w2 91 [.int .i64 n, .string r, .int .i64 c, .int .i64 s]).grow hb3 (by simp)
        have k3 : Below w.heap.size w w3 := (k2.alloc (by omega) _).trans (hb3.mono (by simp; omega))
        have c0 := hx3.cell 0
        have c1 := hx3.cell 1
        have c2 := hx3.cell 2
        have c3 := hx3.cell 3
        have f0 := hx3.frozen 0
        have f1 := hx3.frozen 1
        have f2 := hx3.frozen 2
        have f3 := hx3.frozen 3
        have d0 := hy3.cell 0
        have d1 := hy3.cell 1
        have d2 := hy3.cell 2
        have d3 := hy3.cell 3
        clear hb3 hx2 k2
        go_wp2_with fail
        rw [HE2.out, HV2.out]
        refine bodyPost_ret (v := .tuple #[.agg #[.int .i64 (n : Nat), .string r, .int .i64 (c : Nat), .int .i64 (s : Nat)], .int .i64 0]) (by simp [results, Tryz.results63, go_sem, c0, c1, c2, c3]) rfl ⟨rfl, ?_⟩
        exact (((k3.setCell (Nat.le_refl _) _).setCell (Nat.le_refl _) _).setCell (Nat.le_refl _) _).setCell (Nat.le_refl _) _

end Go.Proofs.YtkhnjipjbhcgdaaGreat

/-
  THE WALKS of treehead.Sign, treehead.Open.
-/
namespace Go.Proofs.YtkhnjipjbhcgdaaGreat
open Go.RowKit Hp

theorem and_false_of {p q : Prop} [Decidable p] [Decidable q] (h : ¬ (p ∧ q)) : (decide p && decide q) = false := by
  cases hb : (decide p && decide q) with
  | false => rfl
  | true =>
    rw [Bool.and_eq_true, decide_eq_true_iff, decide_eq_true_iff] at hb
    exact absurd hb h

theorem openV_form (key : Int) (b : ByteArray) : ∃ c s : Nat, openV key b = .agg #[.int .i64 (openSize key b : Nat), .string (openRoot key b), .int .i64 c, .int .i64 s] := by
  unfold openV openSize openRoot
  by_cases h : openE key b = 0
  · rw [if_pos h, if_pos h, if_pos h]
    have hh : Pl.headB b = true := by
      cases hb : Pl.headB b with
      | true => rfl
      | false =>
        unfold openE at h
        rw [hb] at h
        cases hk : Pl.keyB key <;> rw [hk] at h <;> cases h
    exact ⟨_, _, readV_yes hh⟩
  · rw [if_neg h, if_neg h, if_neg h]
    exact ⟨0, 0, rfl⟩

set_option maxRecDepth 100000 in
set_option maxHeartbeats 4000000 in
theorem topen_any (key : Int) (b : ByteArray) (w : World) :
    Calls Tryz.prog 52 #[.int .i64 key, .string b] w fun e w' => e = .returned (.tuple #[.agg #[.int .i64 (openSize key b : Nat), .string (openRoot key b)], .int .i64 (openE key b)]) ∧ Below w.heap.size w w' := by
  have HO : Hid _ := fun w => topenin_any key b w
  obtain ⟨c, s, hv⟩ := openV_form key b
  rw [hv] at HO
  clear hv
  have hB0 : Below w.heap.size w (w.alloc (.cells #[.int .i64 0, .string ⟨#[]⟩] 59)) := (Below.refl _ _).alloc (Nat.le_refl _) _
  have hx0 := Box.new w 59 [.int .i64 0, .string ⟨#[]⟩]
  generalize openSize key b = n at *
  generalize openRoot key b = r at *
  generalize openE key b = x at *
  go_enter Tryz.func52, Tryz.ntmps52
  go_wp2_with fail
  refine (HO.out _).mono ?_
  rintro e w2 ⟨rfl, hb2⟩
  have hx2 := hx0.grow hb2 (by simp)
  have k2 : Below w.heap.size w w2 := hB0.trans (hb2.mono (by simp))
  have c0 := hx2.cell 0
  have c1 := hx2.cell 1
  have f0 := hx2.frozen 0
  have f1 := hx2.frozen 1
  have hl2 := hx2.lt
  have hne : ¬ w.heap.size = w2.heap.size := by omega
  clear hb2 hx0 hB0 hx2
  go_wp2_with fail
  refine bodyPost_ret (v := .tuple #[.agg #[.int .i64 n, .string r], .int .i64 x]) (by simp [results, Tryz.results52, go_sem, c0, c1, hl2]) rfl ⟨rfl, ?_⟩
  exact ((k2.setCell (Nat.le_refl _) _).setCell (Nat.le_refl _) _).alloc (by simp; omega) _

end Go.Proofs.YtkhnjipjbhcgdaaGreat

/-
  WHAT A WATCHER IS TO ANSWER (no function of any translation is named).
-/
namespace Go.Proofs.YtkhnjipjbhcgdaaGreat

/-- What Holds is to answer. -/
def holdsP (size : Nat) (root : ByteArray) (seen closed : Bool) (n i : Int) (leaf : ByteArray) (path : List ByteArray) : Int :=
  if closed = true then 10 else if seen = false then 7 else if ¬ n = size then 9 else inclA root n i leaf path
/-- Does a head that was opened go on from what was seen? -/
def goesB (size : Nat) (root : ByteArray) (seen : Bool) (fs : Nat) (fr : ByteArray) (path : List ByteArray) : Bool :=
  if seen = false ∨ size = 0 then decide (path.length = 0) else decide (extA size root fs fr path = 0)
/-- What Update is to answer. -/
def updP (key : Int) (size : Nat) (root : ByteArray) (seen closed : Bool) (b : ByteArray) (path : List ByteArray) : Int :=
  if closed = true then 10 else if ¬ openE key b = 0 then openE key b else if seen = true ∧ openSize key b < size then 5
  else if goesB size root seen (openSize key b) (openRoot key b) path = true then 0 else 6
end Go.Proofs.YtkhnjipjbhcgdaaGreat
