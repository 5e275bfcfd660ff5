/-
  THE WALKS of treeheadref.right and treeheadref.Open.
-/
import Derived.Test.YtkhnjipjbhcgdaaROpen
import Derived.Test.YtkhnjipjbhcgdaaAns
namespace Go.Proofs.Ytkhnjipjbhcgdaa
open Go.RowKit

theorem headB_facts {b : ByteArray} (h : Pl.headB b = true) : b.size = 11 ∧ Pl.hSize b ≤ 40 ∧ Pl.isSumB (Pl.hRoot b) = true ∧ Pl.hC b < 1019 ∧ Pl.hS b < 1019 := by
  simp only [Pl.headB, Bool.and_eq_true, decide_eq_true_eq] at h
  obtain ⟨h1, ⟨⟨⟨_, h2⟩, h3⟩, h4⟩, h5⟩ := h
  exact ⟨h1, h2, h3, h4, h5⟩

set_option maxRecDepth 100000 in
set_option maxHeartbeats 2000000 in
theorem rright_any (key : Nat) (b : ByteArray) (w : World) (hk : key < 2039) (h : Pl.headB b = true) :
    Calls Try.prog 74 #[.int .i64 key, .string b] w fun e w' => e = .returned (.bool (Pl.rightB key b)) ∧ Below w.heap.size w w' := by
  obtain ⟨h11, h40, hsum, hc, hs⟩ := headB_facts h
  have hz := isSumB_size hsum
  have hS := rsigned_yes b w h11
  rw [h] at hS
  have HP1 : Hid (∀ w, Calls Try.prog 68 #[.int .i64 4, .int .i64 (Pl.hS b : Nat)] w fun e w' => e = .returned (.int .i64 (Pl.powM 4 (Pl.hS b) : Nat)) ∧ w' = w) := fun w => rpower_any 4 _ w (by omega) (by omega)
  have HP2 : Hid (∀ w, Calls Try.prog 68 #[.int .i64 key, .int .i64 (Pl.hC b : Nat)] w fun e w' => e = .returned (.int .i64 (Pl.powM key (Pl.hC b) : Nat)) ∧ w' = w) := fun w => rpower_any key _ w hk (by omega)
  have p1 := Pl.powM_lt 4 (Pl.hS b)
  have p2 := Pl.powM_lt key (Pl.hC b)
  have HE : Hid (Pl.rightB key b = decide (Pl.said key (Pl.powM 4 (Pl.hS b) * Pl.powM key (Pl.hC b) % 2039) (Pl.hSize b) (Pl.hRoot b) = Pl.hC b)) := rfl
  have HQ : Hid (∀ w, Calls Try.prog 70 #[.int .i64 key, .int .i64 (Pl.powM 4 (Pl.hS b) * Pl.powM key (Pl.hC b) % 2039 : Nat), .agg #[.int .i64 (Pl.hSize b : Nat), .string (Pl.hRoot b)]] w fun e w' => e = .returned (.int .i64 (Pl.said key (Pl.powM 4 (Pl.hS b) * Pl.powM key (Pl.hC b) % 2039) (Pl.hSize b) (Pl.hRoot b) : Nat)) ∧ Below w.heap.size w w') := fun w => rsaid_any _ _ _ _ w (by omega) (by omega) (by omega) hz
  have hm : ((Pl.powM 4 (Pl.hS b) : Nat) : Int) * ((Pl.powM key (Pl.hC b) : Nat) : Int) ≤ 4157521 := by
    have h1 : Pl.powM 4 (Pl.hS b) * Pl.powM key (Pl.hC b) ≤ 2039 * 2039 := Nat.mul_le_mul (by omega) (by omega)
    have h2 : ((Pl.powM 4 (Pl.hS b) * Pl.powM key (Pl.hC b) : Nat) : Int) ≤ 4157521 := by omega
    rwa [Int.natCast_mul] at h2
  have hm0 : 0 ≤ ((Pl.powM 4 (Pl.hS b) : Nat) : Int) * ((Pl.powM key (Pl.hC b) : Nat) : Int) := Int.mul_nonneg (by omega) (by omega)
  have HM : Hid (((Pl.powM 4 (Pl.hS b) * Pl.powM key (Pl.hC b) % 2039 : Nat) : Int) = ((Pl.powM 4 (Pl.hS b) : Nat) : Int) * ((Pl.powM key (Pl.hC b) : Nat) : Int) % 2039) := by
    show _ = _
    rw [Int.natCast_emod, Int.natCast_mul]
    rfl
  rw [HM.out] at HQ
  generalize Pl.said key (Pl.powM 4 (Pl.hS b) * Pl.powM key (Pl.hC b) % 2039) (Pl.hSize b) (Pl.hRoot b) = D at *
  have HB : Hid (Pl.rightB key b = ((D : Int) == (Pl.hC b : Int))) := by
    show _ = _
    rw [HE.out, Bool.eq_iff_iff, decide_eq_true_eq, beq_iff_eq]
    omega
  clear h hsum HE
  generalize Pl.powM 4 (Pl.hS b) = P1 at *
  generalize Pl.powM key (Pl.hC b) = P2 at *
  generalize Pl.hS b = s at *
  generalize Pl.hC b = c at *
  generalize Pl.hSize b = sz at *
  generalize Pl.hRoot b = rt at *
  go_enter Try.func74, Try.ntmps74
  go_wp2_with fail
  refine hS.mono ?_
  rintro e w1 ⟨rfl, hb1⟩
  go_wp2_with fail
  refine (HP1.out _).mono ?_
  rintro e w2 ⟨rfl, rfl⟩
  go_wp2_with fail
  refine (HP2.out _).mono ?_
  rintro e w3 ⟨rfl, rfl⟩
  go_wp2_with fail
  refine (HQ.out _).mono ?_
  rintro e w4 ⟨rfl, hb4⟩
  go_wp2_with fail
  go_ret
  exact ⟨ret_bool HB.out.symm, (hb1.alloc hb1.size _).trans (hb4.mono (by have := hb1.size; simp; omega))⟩

/-- A box of two cells of the call's own, which may be written into. -/
theorem box2f {w w2 : World} {a b : Value} {t : TypeId} (hb : Below (w.alloc (.cells #[a, b] t)).heap.size (w.alloc (.cells #[a, b] t)) w2) :
    w2.frozen? ⟨w.heap.size, 0, none⟩ = false ∧ w2.frozen? ⟨w.heap.size, 1, none⟩ = false := by
  constructor
  · rw [hb.frozen (p := ⟨w.heap.size, 0, none⟩) (by simp), World.frozen?_alloc_mark]
    rfl
  · rw [hb.frozen (p := ⟨w.heap.size, 1, none⟩) (by simp), World.frozen?_alloc_mark]
    rfl

theorem rsigned_any (b : ByteArray) (w : World) : Calls Try.prog 73 #[.string b] w fun e w' => (∃ sz rt c s, e = .returned (.tuple #[.agg #[.int .i64 sz, .string rt], .int .i64 c, .int .i64 s, .bool (Pl.headB b)]) ∧ (Pl.headB b = true → sz = (Pl.hSize b : Int) ∧ rt = Pl.hRoot b)) ∧ Below w.heap.size w w' := by
  by_cases h : b.size = 11
  · exact (rsigned_yes b w h).mono fun e w' ⟨he, hb⟩ => ⟨⟨_, _, _, _, he, fun _ => ⟨rfl, rfl⟩⟩, hb⟩
  · have hf : Pl.headB b = false := by simp [Pl.headB, h]
    rw [hf]
    exact (rsigned_no b w h).mono fun e w' ⟨he, hb⟩ => ⟨⟨_, _, _, _, he, fun hh => by cases hh⟩, hb⟩

set_option maxRecDepth 100000 in
set_option maxHeartbeats 2000000 in
theorem ropen_any (key : Int) (b : ByteArray) (w : World) :
    Calls Try.prog 35 #[.int .i64 key, .string b] w fun e w' => e = .returned (.tuple #[.agg #[.int .i64 (openSize key b : Nat), .string (openRoot key b)], .int .i64 (openE key b)]) ∧ Below w.heap.size w w' := by
  have hik := fun w => riskey_any key w
  cases hk : Pl.keyB key with
  | false =>
    have he : openE key b = 2 := by simp [openE, hk]
    have h1 : openSize key b = 0 := by simp [openSize, he]
    have h2 : openRoot key b = ⟨#[]⟩ := by simp [openRoot, he]
    rw [he, h1, h2]
    rw [hk] at hik
    clear hk he h1 h2
    go_enter Try.func35, Try.ntmps35
    go_wp2_with fail
    refine (hik _).mono ?_
    rintro e w1 ⟨rfl, rfl⟩
    go_wp2_with fail
    refine bodyPost_ret (v := .tuple #[.agg #[.int .i64 0, .string ⟨#[]⟩], .int .i64 2]) (by simp [results, Try.results35, go_sem]) rfl ⟨rfl, ?_⟩
    exact (Below.refl _ _).alloc (Nat.le_refl _) _
  | true =>
    rw [hk] at hik
    obtain ⟨x, _, _, hx⟩ := Pl.keyB_yes hk
    have hx2 := Pl.powM_lt 4 x
    cases hh : Pl.headB b with
    | false =>
      have he : openE key b = 3 := by simp [openE, hk, hh]
      have h1 : openSize key b = 0 := by simp [openSize, he]
      have h2 : openRoot key b = ⟨#[]⟩ := by simp [openRoot, he]
      rw [he, h1, h2]
      have hsg := fun w => rsigned_any b w
      rw [hh] at hsg
      clear hk he h1 h2 hh hx
      go_enter Try.func35, Try.ntmps35
      go_wp2_with fail
      refine (hik _).mono ?_
      rintro e w1 ⟨rfl, rfl⟩
      go_wp2_with fail
      refine (hsg _).mono ?_
      rintro e w2 ⟨⟨sz, rt, c, s, rfl, _⟩, hb2⟩
      obtain ⟨q0, q1, hz⟩ := box2 hb2
      obtain ⟨f0, f1⟩ := box2f hb2
      have k2 : Below w.heap.size w w2 := ((Below.refl _ _).alloc (Nat.le_refl _) _).trans (hb2.mono (by simp))
      clear hb2
      go_wp2_with fail
      refine bodyPost_ret (v := .tuple #[.agg #[.int .i64 0, .string ⟨#[]⟩], .int .i64 3]) (by simp [results, Try.results35, go_sem, q0, q1, hz]) rfl ⟨rfl, ?_⟩
      exact ((k2.setCell (Nat.le_refl _) _).setCell (Nat.le_refl _) _).alloc (by simpa [World.setCell] using k2.size) _
    | true =>
      obtain ⟨kn, rfl⟩ : ∃ kn : Nat, key = (kn : Int) := ⟨_, hx.symm⟩
      have hkn : kn < 2039 := by omega
      have hrt := fun w => rright_any kn b w hkn hh
      have hsg := fun w => rsigned_any b w
      rw [hh] at hsg
      cases hrr : Pl.rightB kn b with
      | false =>
        have he : openE kn b = 4 := by simp [openE, hk, hh, hrr]
        have h1 : openSize kn b = 0 := by simp [openSize, he]
        have h2 : openRoot kn b = ⟨#[]⟩ := by simp [openRoot, he]
        rw [he, h1, h2]
        rw [hrr] at hrt
        clear hk he h1 h2 hh hx hrr
        go_enter Try.func35, Try.ntmps35
        go_wp2_with fail
        refine (hik _).mono ?_
        rintro e w1 ⟨rfl, rfl⟩
        go_wp2_with fail
        refine (hsg _).mono ?_
        rintro e w2 ⟨⟨sz, rt, c, s, rfl, _⟩, hb2⟩
        obtain ⟨q0, q1, hz⟩ := box2 hb2
        obtain ⟨f0, f1⟩ := box2f hb2
        have k2 : Below w.heap.size w w2 := ((Below.refl _ _).alloc (Nat.le_refl _) _).trans (hb2.mono (by simp))
        clear hb2
        go_wp2_with fail
        refine (hrt _).mono ?_
        rintro e w3 ⟨rfl, hb3⟩
        have hz3 := hb3.size
        simp at hz3
        have r0 : w3.cell? ⟨w.heap.size, 0, none⟩ = some (.int .i64 0) := by rw [hb3.cell (p := ⟨w.heap.size, 0, none⟩) (by simp; omega), World.cell?_alloc_past _ _ _ hz]; exact q0
        have r1 : w3.cell? ⟨w.heap.size, 1, none⟩ = some (.string ⟨#[]⟩) := by rw [hb3.cell (p := ⟨w.heap.size, 1, none⟩) (by simp; omega), World.cell?_alloc_past _ _ _ hz]; exact q1
        have g0 : w3.frozen? ⟨w.heap.size, 0, none⟩ = false := by rw [hb3.frozen (p := ⟨w.heap.size, 0, none⟩) (by simp; omega), World.frozen?_alloc_old _ _ _ (by show w.heap.size ≠ w2.heap.size; omega)]; exact f0
        have g1 : w3.frozen? ⟨w.heap.size, 1, none⟩ = false := by rw [hb3.frozen (p := ⟨w.heap.size, 1, none⟩) (by simp; omega), World.frozen?_alloc_old _ _ _ (by show w.heap.size ≠ w2.heap.size; omega)]; exact f1
        have k3 : Below w.heap.size w w3 := (k2.alloc k2.size _).trans (hb3.mono (by have := k2.size; simp; omega))
        clear hb3 q0 q1 f0 f1
        go_wp2_with fail
        refine bodyPost_ret (v := .tuple #[.agg #[.int .i64 0, .string ⟨#[]⟩], .int .i64 4]) (by simp [results, Try.results35, go_sem, r0, r1]) rfl ⟨rfl, ?_⟩
        exact (k3.setCell (Nat.le_refl _) _).setCell (Nat.le_refl _) _
      | true =>
        have he : openE kn b = 0 := by simp [openE, hk, hh, hrr]
        have h1 : openSize kn b = Pl.hSize b := by simp [openSize, he]
        have h2 : openRoot kn b = Pl.hRoot b := by simp [openRoot, he]
        rw [he, h1, h2]
        rw [hrr] at hrt
        clear hk he h1 h2 hh hx hrr
        go_enter Try.func35, Try.ntmps35
        go_wp2_with fail
        refine (hik _).mono ?_
        rintro e w1 ⟨rfl, rfl⟩
        go_wp2_with fail
        refine (hsg _).mono ?_
        rintro e w2 ⟨⟨sz, rt, c, s, rfl, hval⟩, hb2⟩
        obtain ⟨rfl, rfl⟩ := hval (by trivial)
        obtain ⟨q0, q1, hz⟩ := box2 hb2
        obtain ⟨f0, f1⟩ := box2f hb2
        have k2 : Below w.heap.size w w2 := ((Below.refl _ _).alloc (Nat.le_refl _) _).trans (hb2.mono (by simp))
        clear hb2 hval
        go_wp2_with fail
        refine (hrt _).mono ?_
        rintro e w3 ⟨rfl, hb3⟩
        have hz3 := hb3.size
        simp at hz3
        have r0 : w3.cell? ⟨w.heap.size, 0, none⟩ = some (.int .i64 0) := by rw [hb3.cell (p := ⟨w.heap.size, 0, none⟩) (by simp; omega), World.cell?_alloc_past _ _ _ hz]; exact q0
        have r1 : w3.cell? ⟨w.heap.size, 1, none⟩ = some (.string ⟨#[]⟩) := by rw [hb3.cell (p := ⟨w.heap.size, 1, none⟩) (by simp; omega), World.cell?_alloc_past _ _ _ hz]; exact q1
        have g0 : w3.frozen? ⟨w.heap.size, 0, none⟩ = false := by rw [hb3.frozen (p := ⟨w.heap.size, 0, none⟩) (by simp; omega), World.frozen?_alloc_old _ _ _ (by show w.heap.size ≠ w2.heap.size; omega)]; exact f0
        have g1 : w3.frozen? ⟨w.heap.size, 1, none⟩ = false := by rw [hb3.frozen (p := ⟨w.heap.size, 1, none⟩) (by simp; omega), World.frozen?_alloc_old _ _ _ (by show w.heap.size ≠ w2.heap.size; omega)]; exact f1
        obtain ⟨t0, t1, tz⟩ := box2 hb3
        have k3 : Below w.heap.size w w3 := (k2.alloc k2.size _).trans (hb3.mono (by have := k2.size; simp; omega))
        clear hb3 q0 q1 f0 f1
        go_wp2_with fail
        refine bodyPost_ret (v := .tuple #[.agg #[.int .i64 (Pl.hSize b : Nat), .string (Pl.hRoot b)], .int .i64 0]) (by simp [results, Try.results35, go_sem, r0, r1]) rfl ⟨rfl, ?_⟩
        exact (k3.setCell (Nat.le_refl _) _).setCell (Nat.le_refl _) _

end Go.Proofs.Ytkhnjipjbhcgdaa
