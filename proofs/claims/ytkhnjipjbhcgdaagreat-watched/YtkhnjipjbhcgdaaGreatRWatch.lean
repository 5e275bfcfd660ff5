import Derived.Test.YtkhnjipjbhcgdaaGreatROpen
import Derived.Test.YtkhnjipjbhcgdaaGreatAns
import Derived.Test.YtkhnjipjbhcgdaaGreatTBox
/-
  THE WALKS of treeheadref.right and treeheadref.Open.
-/
namespace Go.Proofs.YtkhnjipjbhcgdaaGreat
open Go.RowKit

theorem headB_facts {b : ByteArray} (h : Pl.headB b = true) : b.size = 11 ∧ Pl.hSize b ≤ 40 ∧ Pl.isSumB (Pl.hRoot b) = true ∧ Pl.hC b < 1019 ∧ Pl.hS b < 1019 := by
  simp only [Pl.headB, Bool.and_eq_true, decide_eq_true_eq] at h
  obtain ⟨h1, ⟨⟨⟨_, h2⟩, h3⟩, h4⟩, h5⟩ := h
  exact ⟨h1, h2, h3, h4, h5⟩

set_option maxRecDepth 100000 in
set_option maxHeartbeats 2000000 in
theorem rright_any (key : Nat) (b : ByteArray) (w : World) (hk : key < 2039) (h : Pl.headB b = true) :
    Calls Tryz.prog 66 #[.int .i64 key, .string b] w fun e w' => e = .returned (.bool (Pl.rightB key b)) ∧ Below w.heap.size w w' := by
  obtain ⟨h11, h40, hsum, hc, hs⟩ := headB_facts h
  have hz := isSumB_size hsum
  have hS := rsigned_yes b w h11
  rw [h] at hS
  have HP1 : Hid (∀ w, Calls Tryz.prog 42 #[.int .i64 4, .int .i64 (Pl.hS b : Nat)] w fun e w' => e = .returned (.int .i64 (Pl.powM 4 (Pl.hS b) : Nat)) ∧ w' = w) := fun w => rpower_any 4 _ w (by omega) (by omega)
  have HP2 : Hid (∀ w, Calls Tryz.prog 42 #[.int .i64 key, .int .i64 (Pl.hC b : Nat)] w fun e w' => e = .returned (.int .i64 (Pl.powM key (Pl.hC b) : Nat)) ∧ w' = w) := fun w => rpower_any key _ w hk (by omega)
  have p1 := Pl.powM_lt 4 (Pl.hS b)
  have p2 := Pl.powM_lt key (Pl.hC b)
  have HE : Hid (Pl.rightB key b = decide (Pl.said key (Pl.powM 4 (Pl.hS b) * Pl.powM key (Pl.hC b) % 2039) (Pl.hSize b) (Pl.hRoot b) = Pl.hC b)) := rfl
  have HQ : Hid (∀ w, Calls Tryz.prog 41 #[.int .i64 key, .int .i64 (Pl.powM 4 (Pl.hS b) * Pl.powM key (Pl.hC b) % 2039 : Nat), .agg #[.int .i64 (Pl.hSize b : Nat), .string (Pl.hRoot b)]] w fun e w' => e = .returned (.int .i64 (Pl.said key (Pl.powM 4 (Pl.hS b) * Pl.powM key (Pl.hC b) % 2039) (Pl.hSize b) (Pl.hRoot b) : Nat)) ∧ Below w.heap.size w w') := fun w => rsaid_any _ _ _ _ w (by omega) (by omega) (by omega) hz
  have hm : ((Pl.powM 4 (Pl.hS b) : Nat) : Int) * ((Pl.powM key (Pl.hC b) : Nat) : Int) ≤ 4157521 := by
    have h1 : Pl.powM 4 (Pl.hS b) * Pl.powM key (Pl.hC b) ≤ 2039 * 2039 := Nat.mul_le_mul (by omega) (by omega)
    have h2 : ((Pl.powM 4 (Pl.hS b) * Pl.powM key (Pl.hC b) : Nat) : Int) ≤ 4157521 := by omega
    rwa [Int.natCast_mul] at h2
  have hm0 : 0 ≤ ((Pl.powM 4 (Pl.hS b) : Nat) : Int) * ((Pl.powM key (Pl.hC b) : Nat) : Int) := Int.mul_nonneg (by omega) (by omega)
  have HM : Hid (((Pl.powM 4 (Pl.hS b) * Pl.powM key (Pl.hC b) % 2039 : Nat) : Int) = ((Pl.powM 4 (Pl.hS b) : Nat) : Int) * ((Pl.powM key (Pl.hC b) : Nat) : Int) % 2039) := by
    show _ = _
    rw [Int.natCast_emod, Int.natCast_mul]
    rfl
  rw [HM.out] at HQ
  generalize Pl.said key (Pl.powM 4 (Pl.hS b) * Pl.powM key (Pl.hC b) % 2039) (Pl.hSize b) (Pl.hRoot b) = D at *
  have HB : Hid (Pl.rightB key b = ((D : Int) == (Pl.hC b : Int))) := by
    show _ = _
    rw [HE.out, Bool.eq_iff_iff, decide_eq_true_eq, beq_iff_eq]
    omega
  clear h hsum HE
  generalize Pl.powM 4 (Pl.hS b) = P1 at *
  generalize Pl.powM key (Pl.hC b) = P2 at *
  generalize Pl.hS b = s at *
  generalize Pl.hC b = c at *
  generalize Pl.hSize b = sz at *
  generalize Pl.hRoot b = rt at *
  go_enter Tryz.func66, Tryz.ntmps66
  go_wp2_with fail
  refine hS.mono ?_
  rintro e w1 ⟨rfl, hb1⟩
  go_wp2_with fail
  refine (HP1.out _).mono ?_
  rintro e w2 ⟨rfl, rfl⟩
  go_wp2_with fail
  refine (HP2.out _).mono ?_
  rintro e w3 ⟨rfl, rfl⟩
  go_wp2_with fail
  refine (HQ.out _).mono ?_
  rintro e w4 ⟨rfl, hb4⟩
  go_wp2_with fail
  go_ret
  exact ⟨ret_bool HB.out.symm, (hb1.alloc hb1.size _).trans (hb4.mono (by have := hb1.size; simp; omega))⟩

/-- A box of two cells of the call's own, which may be written into. -/
theorem box2f {w w2 : World} {a b : Value} {t : TypeId} (hb : Below (w.alloc (.cells #[a, b] t)).heap.size (w.alloc (.cells #[a, b] t)) w2) :
    w2.frozen? ⟨w.heap.size, 0, none⟩ = false ∧ w2.frozen? ⟨w.heap.size, 1, none⟩ = false := by
  constructor
  · rw [hb.frozen (p := ⟨w.heap.size, 0, none⟩) (by simp), World.frozen?_alloc_mark]
    rfl
  · rw [hb.frozen (p := ⟨w.heap.size, 1, none⟩) (by simp), World.frozen?_alloc_mark]
    rfl

theorem rsigned_any (b : ByteArray) (w : World) : Calls Tryz.prog 65 #[.string b] w fun e w' => (∃ sz rt c s, e = .returned (.tuple #[.agg #[.int .i64 sz, .string rt], .int .i64 c, .int .i64 s, .bool (Pl.headB b)]) ∧ (Pl.headB b = true → sz = (Pl.hSize b : Int) ∧ rt = Pl.hRoot b)) ∧ Below w.heap.size w w' := by
  by_cases h : b.size = 11
  · exact (rsigned_yes b w h).mono fun e w' ⟨he, hb⟩ => ⟨⟨_, _, _, _, he, fun _ => ⟨rfl, rfl⟩⟩, hb⟩
  · have hf : Pl.headB b = false := by simp [Pl.headB, h]
    rw [hf]
    exact (rsigned_no b w h).mono fun e w' ⟨he, hb⟩ => ⟨⟨_, _, _, _, he, fun hh => by cases hh⟩, hb⟩

set_option maxRecDepth 100000 in
set_option maxHeartbeats 2000000 in
theorem ropen_any (key : Int) (b : ByteArray) (w : World) :
    Calls Tryz.prog 54 #[.int .i64 key, .string b] w fun e w' => e = .returned (.tuple #[.agg #[.int .i64 (openSize key b : Nat), .string (openRoot key b)], .int .i64 (openE key b)]) ∧ Below w.heap.size w w' := by
  have hik := fun w => riskey_any key w
  cases hk : Pl.keyB key with
  | false =>
    have he : openE key b = 2 := by simp [openE, hk]
    have h1 : openSize key b = 0 := by simp [openSize, he]
    have h2 : openRoot key b = ⟨#[]⟩ := by simp [openRoot, he]
    rw [he, h1, h2]
    rw [hk] at hik
    clear hk he h1 h2
    go_enter Tryz.func54, Tryz.ntmps54
    go_wp2_with fail
    refine (hik _).mono ?_
    rintro e w1 ⟨rfl, rfl⟩
    go_wp2_with fail
    refine bodyPost_ret (v := .tuple #[.agg #[.int .i64 0, .string ⟨#[]⟩], .int .i64 2]) (by simp [results, Tryz.results54, go_sem]) rfl ⟨rfl, ?_⟩
    exact (Below.refl _ _).alloc (Nat.le_refl _) _
  | true =>
    rw [hk] at hik
    obtain ⟨x, _, _, hx⟩ := Pl.keyB_yes hk
    have hx2 := Pl.powM_lt 4 x
    cases hh : Pl.headB b with
    | false =>
      have he : openE key b = 3 := by simp [openE, hk, hh]
      have h1 : openSize key b = 0 := by simp [openSize, he]
      have h2 : openRoot key b = ⟨#[]⟩ := by simp [openRoot, he]
      rw [he, h1, h2]
      have hsg := fun w => rsigned_any b w
      rw [hh] at hsg
      clear hk he h1 h2 hh hx
      go_enter Tryz.func54, Tryz.ntmps54
      go_wp2_with fail
      refine (hik _).mono ?_
      rintro e w1 ⟨rfl, rfl⟩
      go_wp2_with fail
      refine (hsg _).mono ?_
      rintro e w2 ⟨⟨sz, rt, c, s, rfl, _⟩, hb2⟩
      obtain ⟨q0, q1, hz⟩ := box2 hb2
      obtain ⟨f0, f1⟩ := box2f hb2
      have k2 : Below w.heap.size w w2 := ((Below.refl _ _).alloc (Nat.le_refl _) _).trans (hb2.mono (by simp))
      clear hb2
      go_wp2_with fail
      refine bodyPost_ret (v := .tuple #[.agg #[.int .i64 0, .string ⟨#[]⟩], .int .i64 3]) (by simp [results, Tryz.results54, go_sem, q0, q1, hz]) rfl ⟨rfl, ?_⟩
      exact ((k2.setCell (Nat.le_refl _) _).setCell (Nat.le_refl _) _).alloc (by simpa [World.setCell] using k2.size) _
    | true =>
      obtain ⟨kn, rfl⟩ : ∃ kn : Nat, key = (kn : Int) := ⟨_, hx.symm⟩
      have hkn : kn < 2039 := by omega
      have hrt := fun w => rright_any kn b w hkn hh
      have hsg := fun w => rsigned_any b w
      rw [hh] at hsg
      cases hrr : Pl.rightB kn b with
      | false =>
        have he : openE kn b = 4 := by simp [openE, hk, hh, hrr]
        have h1 : openSize kn b = 0 := by simp [openSize, he]
        have h2 : openRoot kn b = ⟨#[]⟩ := by simp [openRoot, he]
        rw [he, h1, h2]
        rw [hrr] at hrt
        clear hk he h1 h2 hh hx hrr
        go_enter Tryz.func54, Tryz.ntmps54
        go_wp2_with fail
        refine (hik _).mono ?_
        rintro e w1 ⟨rfl, rfl⟩
        go_wp2_with fail
        refine (hsg _).mono ?_
        rintro e w2 ⟨⟨sz, rt, c, s, rfl, _⟩, hb2⟩
        obtain ⟨q0, q1, hz⟩ := box2 hb2
        obtain ⟨f0, f1⟩ := box2f hb2
        have k2 : Below w.heap.size w w2 := ((Below.refl _ _).alloc (Nat.le_refl _) _).trans (hb2.mono (by simp))
        clear hb2
        go_wp2_with fail
        refine (hrt _).mono ?_
        rintro e w3 ⟨rfl, hb3⟩
        have hz3 := hb3.size
        simp at hz3
        have r0 : w3.cell? ⟨w.heap.size, 0, none⟩ = some (.int .i64 0) := by rw [hb3.cell (p := ⟨w.heap.size, 0, none⟩) (by simp; omega), World.cell?_alloc_past _ _ _ hz]; exact q0
        have r1 : w3.cell? ⟨w.heap.size, 1, none⟩ = some (.string ⟨#[]⟩) := by rw [hb3.cell (p := ⟨w.heap.size, 1, none⟩) (by simp; omega), World.cell?_alloc_past _ _ _ hz]; exact q1
        have g0 : w3.frozen? ⟨w.heap.size, 0, none⟩ = false := by rw [hb3.frozen (p := ⟨w.heap.size, 0, none⟩) (by simp; omega), World.frozen?_alloc_old _ _ _ (by show w.heap.size ≠ w2.heap.size; omega)]; exact f0
        have g1 : w3.frozen? ⟨w.heap.size, 1, none⟩ = false := by rw [hb3.frozen (p := ⟨w.heap.size, 1, none⟩) (by simp; omega), World.frozen?_alloc_old _ _ _ (by show w.heap.size ≠ w2.heap.size; omega)]; exact f1
        have k3 : Below w.heap.size w w3 := (k2.alloc k2.size _).trans (hb3.mono (by have := k2.size; simp; omega))
        clear hb3 q0 q1 f0 f1
        go_wp2_with fail
        refine bodyPost_ret (v := .tuple #[.agg #[.int .i64 0, .string ⟨#[]⟩], .int .i64 4]) (by simp [results, Tryz.results54, go_sem, r0, r1]) rfl ⟨rfl, ?_⟩
        exact (k3.setCell (Nat.le_refl _) _).setCell (Nat.le_refl _) _
      | true =>
        have he : openE kn b = 0 := by simp [openE, hk, hh, hrr]
        have h1 : openSize kn b = Pl.hSize b := by simp [openSize, he]
        have h2 : openRoot kn b = Pl.hRoot b := by simp [openRoot, he]
        rw [he, h1, h2]
        rw [hrr] at hrt
        clear hk he h1 h2 hh hx hrr
        go_enter Tryz.func54, Tryz.ntmps54
        go_wp2_with fail
        refine (hik _).mono ?_
        rintro e w1 ⟨rfl, rfl⟩
        go_wp2_with fail
        refine (hsg _).mono ?_
        rintro e w2 ⟨⟨sz, rt, c, s, rfl, hval⟩, hb2⟩
        obtain ⟨rfl, rfl⟩ := hval (by trivial)
        obtain ⟨q0, q1, hz⟩ := box2 hb2
        obtain ⟨f0, f1⟩ := box2f hb2
        have k2 : Below w.heap.size w w2 := ((Below.refl _ _).alloc (Nat.le_refl _) _).trans (hb2.mono (by simp))
        clear hb2 hval
        go_wp2_with fail
        refine (hrt _).mono ?_
        rintro e w3 ⟨rfl, hb3⟩
        have hz3 := hb3.size
        simp at hz3
        have r0 : w3.cell? ⟨w.heap.size, 0, none⟩ = some (.int .i64 0) := by rw [hb3.cell (p := ⟨w.heap.size, 0, none⟩) (by simp; omega), World.cell?_alloc_past _ _ _ hz]; exact q0
        have r1 : w3.cell? ⟨w.heap.size, 1, none⟩ = some (.string ⟨#[]⟩) := by rw [hb3.cell (p := ⟨w.heap.size, 1, none⟩) (by simp; omega), World.cell?_alloc_past _ _ _ hz]; exact q1
        have g0 : w3.frozen? ⟨w.heap.size, 0, none⟩ = false := by rw [hb3.frozen (p := ⟨w.heap.size, 0, none⟩) (by simp; omega), World.frozen?_alloc_old _ _ _ (by show w.heap.size ≠ w2.heap.size; omega)]; exact f0
        have g1 : w3.frozen? ⟨w.heap.size, 1, none⟩ = false := by rw [hb3.frozen (p := ⟨w.heap.size, 1, none⟩) (by simp; omega), World.frozen?_alloc_old _ _ _ (by show w.heap.size ≠ w2.heap.size; omega)]; exact f1
        obtain ⟨t0, t1, tz⟩ := box2 hb3
        have k3 : Below w.heap.size w w3 := (k2.alloc k2.size _).trans (hb3.mono (by have := k2.size; simp; omega))
        clear hb3 q0 q1 f0 f1
        go_wp2_with fail
        refine bodyPost_ret (v := .tuple #[.agg #[.int .i64 (Pl.hSize b : Nat), .string (Pl.hRoot b)], .int .i64 0]) (by simp [results, Tryz.results54, go_sem, r0, r1]) rfl ⟨rfl, ?_⟩
        exact (k3.setCell (Nat.le_refl _) _).setCell (Nat.le_refl _) _

end Go.Proofs.YtkhnjipjbhcgdaaGreat

/-
  THE WALKS of treeheadref.Watch and of its Watcher: Told, Holds, Update.
-/
namespace Go.Proofs.YtkhnjipjbhcgdaaGreat
open Go.RowKit Hp

set_option maxRecDepth 100000 in
set_option maxHeartbeats 1000000 in
theorem rwatch_no (key : Int) (w : World) (h : Pl.keyB key = false) :
    Calls Tryz.prog 11 #[.int .i64 key] w fun e w' => e = .returned (.tuple #[.pointer none, .int .i64 2]) ∧ w' = w := by
  have hik := fun w => riskey_any key w
  rw [h] at hik
  go_enter Tryz.func11, Tryz.ntmps11
  go_wp2_with fail
  refine (hik _).mono ?_
  rintro e w1 ⟨rfl, rfl⟩
  go_wp2_with fail
  go_ret2
  exact ⟨rfl, rfl⟩

set_option maxRecDepth 100000 in
set_option maxHeartbeats 1000000 in
theorem rwatch_yes (key : Int) (w : World) (h : Pl.keyB key = true) :
    Calls Tryz.prog 11 #[.int .i64 key] w fun e w' => e = .returned (.tuple #[.pointer (some ⟨w.heap.size, 0, none⟩), .int .i64 0]) ∧ w' = w.alloc (.cells #[.int .i64 key, .int .i64 0, .string ⟨#[]⟩, .bool false, .bool false] 67) := by
  have hik := fun w => riskey_any key w
  rw [h] at hik
  go_enter Tryz.func11, Tryz.ntmps11
  go_wp2_with fail
  refine (hik _).mono ?_
  rintro e w1 ⟨rfl, rfl⟩
  go_wp2_with fail
  go_ret2
  exact ⟨rfl, rfl⟩

set_option maxRecDepth 100000 in
set_option maxHeartbeats 1000000 in
theorem rtold_any (F : Nat) (key : Int) (size : Nat) (root : ByteArray) (seen closed : Bool) (w : World) (h : Box w F 67 [.int .i64 key, .int .i64 size, .string root, .bool seen, .bool closed]) :
    Calls Tryz.prog 38 #[.pointer (some ⟨F, 0, none⟩)] w fun e w' => e = .returned (.tuple #[.agg #[.int .i64 (if seen = true then (size : Int) else 0), .string (if seen = true then root else ⟨#[]⟩)], .int .i64 (if seen = true then 0 else 7)]) ∧ Below w.heap.size w w' := by
  have hx := h.alloc (.cells #[.int .i64 0, .string ⟨#[]⟩] 59)
  have hlt := h.lt
  have q1 := hx.cell 1
  have q2 := hx.cell 2
  have q3 := hx.cell 3
  have hne : ¬ F = w.heap.size := by omega
  cases seen with
  | true =>
    go_enter Tryz.func38, Tryz.ntmps38
    go_wp2_with fail
    refine bodyPost_ret (v := .tuple #[.agg #[.int .i64 size, .string root], .int .i64 0]) (by simp [results, Tryz.results38, go_sem]) rfl ⟨rfl, ?_⟩
    exact (Below.refl _ _).alloc (Nat.le_refl _) _
  | false =>
    go_enter Tryz.func38, Tryz.ntmps38
    go_wp2_with fail
    refine bodyPost_ret (v := .tuple #[.agg #[.int .i64 0, .string ⟨#[]⟩], .int .i64 7]) (by simp [results, Tryz.results38, go_sem]) rfl ⟨rfl, ?_⟩
    exact (Below.refl _ _).alloc (Nat.le_refl _) _

/-- What Holds is to answer. -/
def holdsE (size : Nat) (root : ByteArray) (seen closed : Bool) (n i : Int) (leaf : ByteArray) (path : List ByteArray) : Int :=
  if closed = true then 10 else if seen = false then 7 else if ¬ n = size then 9 else inclE root n i leaf path

set_option maxRecDepth 100000 in
set_option maxHeartbeats 2000000 in
theorem rholds_any (F : Nat) (key : Int) (size : Nat) (root : ByteArray) (seen closed : Bool) (n i : Int) (leaf : ByteArray) (p : Option Addr) (cap : Nat) (path : List ByteArray) (w : World) (h : Box w F 67 [.int .i64 key, .int .i64 size, .string root, .bool seen, .bool closed])
    (hrs : root.size ≤ maxLen) (hr : Row w p path) (hpc : path.length ≤ cap) (hcm : cap ≤ 9223372036854775807) :
    Calls Tryz.prog 36 #[.pointer (some ⟨F, 0, none⟩), .agg #[.int .i64 n, .int .i64 i, .string leaf, .slice p path.length cap]] w fun e w' => e = .returned (.int .i64 (holdsE size root seen closed n i leaf path)) ∧ Below w.heap.size w w' := by
  have hx := h.alloc (.cells #[.int .i64 n, .int .i64 i, .string leaf, .slice p path.length cap] 37)
  have hy := Box.new w 37 [.int .i64 n, .int .i64 i, .string leaf, .slice p path.length cap]
  have hlt := h.lt
  have hB : Below w.heap.size w (w.alloc (.cells #[.int .i64 n, .int .i64 i, .string leaf, .slice p path.length cap] 37)) := (Below.refl _ _).alloc (Nat.le_refl _) _
  have HR : Hid (∀ w', Below w.heap.size w w' → Calls Tryz.prog 57 #[.string root, .agg #[.int .i64 n, .int .i64 i, .string leaf, .slice p path.length cap]] w' fun e w'' => e = .returned (.int .i64 (inclE root n i leaf path)) ∧ Below w'.heap.size w' w'') :=
    fun w' hb => rincluded_any root n i leaf p cap path w' hrs (hr.grow hb (Nat.le_refl _)) hpc hcm
  clear hr hpc hcm hrs h
  have q1 := hx.cell 1
  have q2 := hx.cell 2
  have q3 := hx.cell 3
  have q4 := hx.cell 4
  have c0 := hy.cell 0
  have c1 := hy.cell 1
  have c2 := hy.cell 2
  have c3 := hy.cell 3
  have hne : ¬ F = w.heap.size := by omega
  cases closed with
  | true =>
    have HE : Hid (holdsE size root seen true n i leaf path = 10) := rfl
    go_enter Tryz.func36, Tryz.ntmps36
    go_wp2_with fail
    go_ret
    exact ⟨ret_int HE.out.symm, hB⟩
  | false =>
    cases seen with
    | false =>
      have HE : Hid (holdsE size root false false n i leaf path = 7) := rfl
      go_enter Tryz.func36, Tryz.ntmps36
      go_wp2_with fail
      go_ret
      exact ⟨ret_int HE.out.symm, hB⟩
    | true =>
      by_cases hn : ¬ n = size
      · have HE : Hid (holdsE size root true false n i leaf path = 9) := by
          show _ = _
          unfold holdsE
          rw [if_neg (by simp), if_neg (by simp), if_pos hn]
        have hbe : (n == (size : Int)) = false := by rw [beq_eq_false_iff_ne]; exact hn
        clear hn
        go_enter Tryz.func36, Tryz.ntmps36
        go_wp2_with fail
        go_region
        go_wp2_with fail
        go_ret
        exact ⟨ret_int HE.out.symm, hB.drew⟩
      · have HE : Hid (holdsE size root true false n i leaf path = inclE root n i leaf path) := by
          show _ = _
          unfold holdsE
          rw [if_neg (by simp), if_neg (by simp), if_neg hn]
        have hbe : (n == (size : Int)) = true := by rw [beq_iff_eq]; exact Decidable.not_not.1 hn
        clear hn
        go_enter Tryz.func36, Tryz.ntmps36
        go_wp2_with fail
        go_region
        go_wp2_with fail
        have hx2 := hx.drew
        have hy2 := hy.drew
        have hB2 := hB.drew
        clear hx hy hB q1 q2 q3 q4 c0 c1 c2 c3
        change Box (w.alloc (.cells #[.int .i64 n, .int .i64 i, .string leaf, .slice p path.length cap] 37)).drew w.heap.size _ _ at hy2
        generalize (w.alloc (.cells #[.int .i64 n, .int .i64 i, .string leaf, .slice p path.length cap] 37)).drew = W at *
        have hx1 := hx2.drew
        have hy1 := hy2.drew
        have hB1 := hB2.drew
        have q2 := hx1.cell 2
        have c0 := hy1.cell 0
        have c1 := hy1.cell 1
        have c2 := hy1.cell 2
        have c3 := hy1.cell 3
        go_region_held3 (fun w' => w'.cell? ⟨F, 2, none⟩ = some (.string root) ∧ w'.cell? ⟨w.heap.size, 0, none⟩ = some (.int .i64 n) ∧ w'.cell? ⟨w.heap.size, 1, none⟩ = some (.int .i64 i) ∧ w'.cell? ⟨w.heap.size, 2, none⟩ = some (.string leaf) ∧ w'.cell? ⟨w.heap.size, 3, none⟩ = some (.slice p path.length cap)) (go_keep) (first
          | (go_at_call 57; refine (HR.out _ hB1).mono ?_; rintro e w2 ⟨rfl, hb2⟩; have q22 : w2.cell? ⟨F, 2, none⟩ = some (.string root) := (hx1.grow hb2 hx1.lt).cell 2; obtain ⟨q20, q21, q23, q24, hz2⟩ := keep4 hb2 hy1.lt c0 c1 c2 c3))
        all_goals
          go_wp2_with fail
          go_ret
          exact ⟨ret_int HE.out.symm, hB1.trans (hb2.mono hB1.size)⟩
end Go.Proofs.YtkhnjipjbhcgdaaGreat
