/-
  THE WALKS of seals.ReadEvidence, treehead.Evidence, treehead.Convicts.
-/
import Derived.Test.YtkhnjipjbhcgdabTEvid
import Derived.BigRegion
namespace Go.Proofs.Ytkhnjipjbhcgdab
open Go.RowKit Hp

theorem readV_form (b : ByteArray) : ∃ (n c s : Nat) (r : ByteArray), readV b = .agg #[.int .i64 n, .string r, .int .i64 c, .int .i64 s] ∧ (Pl.headB b = true → n = Pl.hSize b ∧ r = Pl.hRoot b ∧ c = Pl.hC b ∧ s = Pl.hS b) := by
  cases h : Pl.headB b with
  | true => exact ⟨_, _, _, _, readV_yes h, fun _ => ⟨rfl, rfl, rfl, rfl⟩⟩
  | false => exact ⟨0, 0, 0, ⟨#[]⟩, readV_no h, fun hh => by cases hh⟩
/-- Is a text evidence by its form? -/
def evB (v : ByteArray) : Bool := decide (v.size = 23) && (decide (Pl.byt v 0 = 86) && (Pl.headB (v.extract 1 12) && (Pl.headB (v.extract 12 23) && (decide (Pl.hSize (v.extract 1 12) = Pl.hSize (v.extract 12 23)) && Op.bytesLess (Pl.hRoot (v.extract 1 12)).toList (Pl.hRoot (v.extract 12 23)).toList))))
def zeroV : Value := .agg #[.int .i64 0, .string ⟨#[]⟩, .int .i64 0, .int .i64 0]
def evV1 (v : ByteArray) : Value := if evB v = true then readV (v.extract 1 12) else zeroV
def evV2 (v : ByteArray) : Value := if evB v = true then readV (v.extract 12 23) else zeroV
theorem ev_no {v : ByteArray} (h : evB v = false) : Value.tuple #[evV1 v, evV2 v, .bool (evB v)] = .tuple #[.agg #[.int .i64 0, .string ⟨#[]⟩, .int .i64 0, .int .i64 0], .agg #[.int .i64 0, .string ⟨#[]⟩, .int .i64 0, .int .i64 0], .bool false] := by
  unfold evV1 evV2
  rw [h]
  rfl
theorem ev_part1 (v : ByteArray) : (v.extract 1 23).extract 0 11 = v.extract 1 12 := by
  apply ByteArray.ext
  apply Array.ext'
  rw [Lib.extract_data, Lib.extract_data, Lib.extract_data]
  simp [List.take_take]
theorem ev_part2 (v : ByteArray) : (v.extract 1 23).extract 11 22 = v.extract 12 23 := by
  apply ByteArray.ext
  apply Array.ext'
  rw [Lib.extract_data, Lib.extract_data, Lib.extract_data]
  simp [List.drop_take, List.take_take]

theorem two_zero (w : World) : Below w.heap.size w ((w.alloc (.cells #[.int .i64 0, .string ⟨#[]⟩, .int .i64 0, .int .i64 0] 65)).alloc (.cells #[.int .i64 0, .string ⟨#[]⟩, .int .i64 0, .int .i64 0] 65)) := ((Below.refl _ _).alloc (Nat.le_refl _) _).alloc (by simp) _
theorem zero_x (w : World) : Box ((w.alloc (.cells #[.int .i64 0, .string ⟨#[]⟩, .int .i64 0, .int .i64 0] 65)).alloc (.cells #[.int .i64 0, .string ⟨#[]⟩, .int .i64 0, .int .i64 0] 65)) w.heap.size 65 [.int .i64 0, .string ⟨#[]⟩, .int .i64 0, .int .i64 0] := (Box.new w 65 [.int .i64 0, .string ⟨#[]⟩, .int .i64 0, .int .i64 0]).alloc _
theorem zero_y (w : World) : Box ((w.alloc (.cells #[.int .i64 0, .string ⟨#[]⟩, .int .i64 0, .int .i64 0] 65)).alloc (.cells #[.int .i64 0, .string ⟨#[]⟩, .int .i64 0, .int .i64 0] 65)) (w.heap.size + 1) 65 [.int .i64 0, .string ⟨#[]⟩, .int .i64 0, .int .i64 0] := by
  have := Box.new (w.alloc (.cells #[.int .i64 0, .string ⟨#[]⟩, .int .i64 0, .int .i64 0] 65)) 65 [.int .i64 0, .string ⟨#[]⟩, .int .i64 0, .int .i64 0]
  rw [show (w.alloc (.cells #[.int .i64 0, .string ⟨#[]⟩, .int .i64 0, .int .i64 0] 65)).heap.size = w.heap.size + 1 by simp] at this
  exact this

set_option maxRecDepth 100000 in
set_option maxHeartbeats 4000000 in
theorem trevid_form (v : ByteArray) (w : World) (h : ¬ v.size = 23 ∨ ¬ Pl.byt v 0 = 86) :
    Calls Try.prog 37 #[.string v] w fun e w' => e = .returned (.tuple #[.agg #[.int .i64 0, .string ⟨#[]⟩, .int .i64 0, .int .i64 0], .agg #[.int .i64 0, .string ⟨#[]⟩, .int .i64 0, .int .i64 0], .bool false]) ∧ Below w.heap.size w w' := by
  have hB0 := two_zero w
  by_cases h23 : v.size = 23
  · have h0 : ¬ Pl.byt v 0 = 86 := by rcases h with h | h; exact absurd h23 h; exact h
    have hne : ((v.size : Int) != 23) = false := by rw [h23]; rfl
    have HP : Hid (∀ w, Calls Try.prog 57 #[.string v, .string ⟨#[86]⟩] w fun e w' => e = .returned (.bool false) ∧ w' = w) := fun w => by
      have := hasPrefix_any v 86 w (by rw [h23]; decide) (by omega)
      rwa [decide_eq_false (show ¬ Pl.byt v 0 = (86 : UInt8).toNat from h0)] at this
    clear h
    go_enter Try.func37, Try.ntmps37
    go_wp2_with fail
    refine (HP.out _).mono ?_
    rintro e w1 ⟨rfl, rfl⟩
    go_wp2_with fail
    refine bodyPost_ret (v := .tuple #[.agg #[.int .i64 0, .string ⟨#[]⟩, .int .i64 0, .int .i64 0], .agg #[.int .i64 0, .string ⟨#[]⟩, .int .i64 0, .int .i64 0], .bool false]) (by simp [results, Try.results37, go_sem]) rfl ⟨rfl, hB0⟩
  · have hne : ((v.size : Int) != 23) = true := by rw [bne_iff_ne]; omega
    clear h
    go_enter Try.func37, Try.ntmps37
    go_wp2_with fail
    refine bodyPost_ret (v := .tuple #[.agg #[.int .i64 0, .string ⟨#[]⟩, .int .i64 0, .int .i64 0], .agg #[.int .i64 0, .string ⟨#[]⟩, .int .i64 0, .int .i64 0], .bool false]) (by simp [results, Try.results37, go_sem]) rfl ⟨rfl, hB0⟩

set_option maxRecDepth 100000 in
set_option maxHeartbeats 2000000 in
theorem trevid_a (v : ByteArray) (w : World) (h23 : v.size = 23) (h86 : Pl.byt v 0 = 86) (n1 c1 s1 n2 c2 s2 : Nat) (r1 r2 : ByteArray) (xb : Bool)
    (H1 : Hid (∀ w, Calls Try.prog 56 #[.string ((v.extract 1 23).extract 0 11)] w fun e w' => e = .returned (.tuple #[.agg #[.int .i64 n1, .string r1, .int .i64 c1, .int .i64 s1], .bool false]) ∧ Below w.heap.size w w'))
    (H2 : Hid (∀ w, Calls Try.prog 56 #[.string ((v.extract 1 23).extract 11 22)] w fun e w' => e = .returned (.tuple #[.agg #[.int .i64 n2, .string r2, .int .i64 c2, .int .i64 s2], .bool xb]) ∧ Below w.heap.size w w')) :
    Calls Try.prog 37 #[.string v] w fun e w' => e = .returned (.tuple #[.agg #[.int .i64 0, .string ⟨#[]⟩, .int .i64 0, .int .i64 0], .agg #[.int .i64 0, .string ⟨#[]⟩, .int .i64 0, .int .i64 0], .bool false]) ∧ Below w.heap.size w w' := by
  have hne : ((v.size : Int) != 23) = false := by rw [h23]; rfl
  have HP : Hid (∀ w, Calls Try.prog 57 #[.string v, .string ⟨#[86]⟩] w fun e w' => e = .returned (.bool true) ∧ w' = w) := fun w => by
    have := hasPrefix_any v 86 w (by rw [h23]; decide) (by omega)
    rwa [decide_eq_true (show Pl.byt v 0 = (86 : UInt8).toNat from h86)] at this
  have hz : (v.extract 1 23).size = 22 := by rw [ByteArray.size_extract, h23]; rfl
  have hB0 := two_zero w
  have hx0 := zero_x w
  have hy0 := zero_y w
  go_enter Try.func37, Try.ntmps37
  go_wp2_with fail
  refine (HP.out _).mono ?_
  rintro e w1 ⟨rfl, rfl⟩
  go_wp2_with fail
  refine (H1.out _).mono ?_
  rintro e w2 ⟨rfl, hb2⟩
  have hx2 := hx0.grow hb2 hx0.lt
  have hy2 := hy0.grow hb2 hy0.lt
  have k2 : Below w.heap.size w w2 := hB0.trans (hb2.mono (by simp; omega))
  have l2 := hy2.lt
  clear hb2 hB0 hx0 hy0 H1 HP
  go_wp2_with fail
  refine (H2.out _).mono ?_
  rintro e w3 ⟨rfl, hb3⟩
  have hx3 := ((hx2.alloc (.cells #[.int .i64 n1, .string r1, .int .i64 c1, .int .i64 s1] 65)).grow hb3 (by simp; omega)).alloc (.cells #[.int .i64 n2, .string r2, .int .i64 c2, .int .i64 s2] 65)
  have hy3 := ((hy2.alloc (.cells #[.int .i64 n1, .string r1, .int .i64 c1, .int .i64 s1] 65)).grow hb3 (by simp; omega)).alloc (.cells #[.int .i64 n2, .string r2, .int .i64 c2, .int .i64 s2] 65)
  have ha3 := ((Box.new w2 65 [.int .i64 n1, .string r1, .int .i64 c1, .int .i64 s1]).grow hb3 (by simp))
  have l3 := ha3.lt
  have ha3 := ha3.alloc (.cells #[.int .i64 n2, .string r2, .int .i64 c2, .int .i64 s2] 65)
  have hd3 := Box.new w3 65 [.int .i64 n2, .string r2, .int .i64 c2, .int .i64 s2]
  have k3 : Below w.heap.size w (w3.alloc (.cells #[.int .i64 n2, .string r2, .int .i64 c2, .int .i64 s2] 65)) := ((k2.alloc (by omega) _).trans (hb3.mono (by simp; omega))).alloc (by omega) _
  clear hb3 hx2 hy2 k2 H2
  go_upto_region 6 with fail
  generalize w3.alloc (.cells #[.int .i64 n2, .string r2, .int .i64 c2, .int .i64 s2] 65) = W at *
  clear ha3 hd3
  have q0 := hx3.cell 0
  have f0 := hx3.frozen 0
  have d0 := hy3.cell 0
  have g0 := hy3.frozen 0
  have q1 := hx3.cell 1
  have f1 := hx3.frozen 1
  have d1 := hy3.cell 1
  have g1 := hy3.frozen 1
  have q2 := hx3.cell 2
  have f2 := hx3.frozen 2
  have d2 := hy3.cell 2
  have g2 := hy3.frozen 2
  have q3 := hx3.cell 3
  have f3 := hx3.frozen 3
  have d3 := hy3.cell 3
  have g3 := hy3.frozen 3
  clear hx3 hy3 h86 hz hne l2 l3
  go_wp2_with fail
  refine bodyPost_ret (v := .tuple #[.agg #[.int .i64 0, .string ⟨#[]⟩, .int .i64 0, .int .i64 0], .agg #[.int .i64 0, .string ⟨#[]⟩, .int .i64 0, .int .i64 0], .bool false]) (by simp [results, Try.results37, go_sem, q0, q1, q2, q3, d0, d1, d2, d3]) rfl ⟨rfl, ?_⟩
  exact ((((((((k3.setCell (by simp) _).setCell (by simp) _).setCell (by simp) _).setCell (by simp) _).setCell (by simp) _).setCell (by simp) _).setCell (by simp) _).setCell (by simp) _)

set_option maxRecDepth 100000 in
set_option maxHeartbeats 2000000 in
theorem trevid_b (v : ByteArray) (w : World) (h23 : v.size = 23) (h86 : Pl.byt v 0 = 86) (n1 c1 s1 n2 c2 s2 : Nat) (r1 r2 : ByteArray)
    (H1 : Hid (∀ w, Calls Try.prog 56 #[.string ((v.extract 1 23).extract 0 11)] w fun e w' => e = .returned (.tuple #[.agg #[.int .i64 n1, .string r1, .int .i64 c1, .int .i64 s1], .bool true]) ∧ Below w.heap.size w w'))
    (H2 : Hid (∀ w, Calls Try.prog 56 #[.string ((v.extract 1 23).extract 11 22)] w fun e w' => e = .returned (.tuple #[.agg #[.int .i64 n2, .string r2, .int .i64 c2, .int .i64 s2], .bool false]) ∧ Below w.heap.size w w')) :
    Calls Try.prog 37 #[.string v] w fun e w' => e = .returned (.tuple #[.agg #[.int .i64 0, .string ⟨#[]⟩, .int .i64 0, .int .i64 0], .agg #[.int .i64 0, .string ⟨#[]⟩, .int .i64 0, .int .i64 0], .bool false]) ∧ Below w.heap.size w w' := by
  have hne : ((v.size : Int) != 23) = false := by rw [h23]; rfl
  have HP : Hid (∀ w, Calls Try.prog 57 #[.string v, .string ⟨#[86]⟩] w fun e w' => e = .returned (.bool true) ∧ w' = w) := fun w => by
    have := hasPrefix_any v 86 w (by rw [h23]; decide) (by omega)
    rwa [decide_eq_true (show Pl.byt v 0 = (86 : UInt8).toNat from h86)] at this
  have hz : (v.extract 1 23).size = 22 := by rw [ByteArray.size_extract, h23]; rfl
  have hB0 := two_zero w
  have hx0 := zero_x w
  have hy0 := zero_y w
  go_enter Try.func37, Try.ntmps37
  go_wp2_with fail
  refine (HP.out _).mono ?_
  rintro e w1 ⟨rfl, rfl⟩
  go_wp2_with fail
  refine (H1.out _).mono ?_
  rintro e w2 ⟨rfl, hb2⟩
  have hx2 := hx0.grow hb2 hx0.lt
  have hy2 := hy0.grow hb2 hy0.lt
  have k2 : Below w.heap.size w w2 := hB0.trans (hb2.mono (by simp; omega))
  have l2 := hy2.lt
  clear hb2 hB0 hx0 hy0 H1 HP
  go_wp2_with fail
  refine (H2.out _).mono ?_
  rintro e w3 ⟨rfl, hb3⟩
  have hx3 := ((hx2.alloc (.cells #[.int .i64 n1, .string r1, .int .i64 c1, .int .i64 s1] 65)).grow hb3 (by simp; omega)).alloc (.cells #[.int .i64 n2, .string r2, .int .i64 c2, .int .i64 s2] 65)
  have hy3 := ((hy2.alloc (.cells #[.int .i64 n1, .string r1, .int .i64 c1, .int .i64 s1] 65)).grow hb3 (by simp; omega)).alloc (.cells #[.int .i64 n2, .string r2, .int .i64 c2, .int .i64 s2] 65)
  have ha3 := ((Box.new w2 65 [.int .i64 n1, .string r1, .int .i64 c1, .int .i64 s1]).grow hb3 (by simp))
  have l3 := ha3.lt
  have ha3 := ha3.alloc (.cells #[.int .i64 n2, .string r2, .int .i64 c2, .int .i64 s2] 65)
  have hd3 := Box.new w3 65 [.int .i64 n2, .string r2, .int .i64 c2, .int .i64 s2]
  have k3 : Below w.heap.size w (w3.alloc (.cells #[.int .i64 n2, .string r2, .int .i64 c2, .int .i64 s2] 65)) := ((k2.alloc (by omega) _).trans (hb3.mono (by simp; omega))).alloc (by omega) _
  clear hb3 hx2 hy2 k2 H2
  go_upto_region 6 with fail
  generalize w3.alloc (.cells #[.int .i64 n2, .string r2, .int .i64 c2, .int .i64 s2] 65) = W at *
  clear ha3 hd3
  have q0 := hx3.cell 0
  have f0 := hx3.frozen 0
  have d0 := hy3.cell 0
  have g0 := hy3.frozen 0
  have q1 := hx3.cell 1
  have f1 := hx3.frozen 1
  have d1 := hy3.cell 1
  have g1 := hy3.frozen 1
  have q2 := hx3.cell 2
  have f2 := hx3.frozen 2
  have d2 := hy3.cell 2
  have g2 := hy3.frozen 2
  have q3 := hx3.cell 3
  have f3 := hx3.frozen 3
  have d3 := hy3.cell 3
  have g3 := hy3.frozen 3
  clear hx3 hy3 h86 hz hne l2 l3
  go_wp2_with fail
  refine bodyPost_ret (v := .tuple #[.agg #[.int .i64 0, .string ⟨#[]⟩, .int .i64 0, .int .i64 0], .agg #[.int .i64 0, .string ⟨#[]⟩, .int .i64 0, .int .i64 0], .bool false]) (by simp [results, Try.results37, go_sem, q0, q1, q2, q3, d0, d1, d2, d3]) rfl ⟨rfl, ?_⟩
  exact ((((((((k3.setCell (by simp) _).setCell (by simp) _).setCell (by simp) _).setCell (by simp) _).setCell (by simp) _).setCell (by simp) _).setCell (by simp) _).setCell (by simp) _)

set_option maxRecDepth 100000 in
set_option maxHeartbeats 2000000 in
theorem trevid_c (v : ByteArray) (w : World) (h23 : v.size = 23) (h86 : Pl.byt v 0 = 86) (n1 c1 s1 n2 c2 s2 : Nat) (r1 r2 : ByteArray)
    (H1 : Hid (∀ w, Calls Try.prog 56 #[.string ((v.extract 1 23).extract 0 11)] w fun e w' => e = .returned (.tuple #[.agg #[.int .i64 n1, .string r1, .int .i64 c1, .int .i64 s1], .bool true]) ∧ Below w.heap.size w w'))
    (H2 : Hid (∀ w, Calls Try.prog 56 #[.string ((v.extract 1 23).extract 11 22)] w fun e w' => e = .returned (.tuple #[.agg #[.int .i64 n2, .string r2, .int .i64 c2, .int .i64 s2], .bool true]) ∧ Below w.heap.size w w'))
    (HI : Hid (∀ w, Calls Try.prog 58 #[.agg #[.int .i64 n1, .string r1, .int .i64 c1, .int .i64 s1], .agg #[.int .i64 n2, .string r2, .int .i64 c2, .int .i64 s2]] w fun e w' => e = .returned (.bool false) ∧ Below w.heap.size w w')) :
    Calls Try.prog 37 #[.string v] w fun e w' => e = .returned (.tuple #[.agg #[.int .i64 0, .string ⟨#[]⟩, .int .i64 0, .int .i64 0], .agg #[.int .i64 0, .string ⟨#[]⟩, .int .i64 0, .int .i64 0], .bool false]) ∧ Below w.heap.size w w' := by
  have hne : ((v.size : Int) != 23) = false := by rw [h23]; rfl
  have HP : Hid (∀ w, Calls Try.prog 57 #[.string v, .string ⟨#[86]⟩] w fun e w' => e = .returned (.bool true) ∧ w' = w) := fun w => by
    have := hasPrefix_any v 86 w (by rw [h23]; decide) (by omega)
    rwa [decide_eq_true (show Pl.byt v 0 = (86 : UInt8).toNat from h86)] at this
  have hz : (v.extract 1 23).size = 22 := by rw [ByteArray.size_extract, h23]; rfl
  have hB0 := two_zero w
  have hx0 := zero_x w
  have hy0 := zero_y w
  go_enter Try.func37, Try.ntmps37
  go_wp2_with fail
  refine (HP.out _).mono ?_
  rintro e w1 ⟨rfl, rfl⟩
  go_wp2_with fail
  refine (H1.out _).mono ?_
  rintro e w2 ⟨rfl, hb2⟩
  have hx2 := hx0.grow hb2 hx0.lt
  have hy2 := hy0.grow hb2 hy0.lt
  have k2 : Below w.heap.size w w2 := hB0.trans (hb2.mono (by simp; omega))
  have l2 := hy2.lt
  clear hb2 hB0 hx0 hy0 H1 HP
  go_wp2_with fail
  refine (H2.out _).mono ?_
  rintro e w3 ⟨rfl, hb3⟩
  have hx3 := ((hx2.alloc (.cells #[.int .i64 n1, .string r1, .int .i64 c1, .int .i64 s1] 65)).grow hb3 (by simp; omega)).alloc (.cells #[.int .i64 n2, .string r2, .int .i64 c2, .int .i64 s2] 65)
  have hy3 := ((hy2.alloc (.cells #[.int .i64 n1, .string r1, .int .i64 c1, .int .i64 s1] 65)).grow hb3 (by simp; omega)).alloc (.cells #[.int .i64 n2, .string r2, .int .i64 c2, .int .i64 s2] 65)
  have ha3 := ((Box.new w2 65 [.int .i64 n1, .string r1, .int .i64 c1, .int .i64 s1]).grow hb3 (by simp))
  have l3 := ha3.lt
  have ha3 := ha3.alloc (.cells #[.int .i64 n2, .string r2, .int .i64 c2, .int .i64 s2] 65)
  have hd3 := Box.new w3 65 [.int .i64 n2, .string r2, .int .i64 c2, .int .i64 s2]
  have k3 : Below w.heap.size w (w3.alloc (.cells #[.int .i64 n2, .string r2, .int .i64 c2, .int .i64 s2] 65)) := ((k2.alloc (by omega) _).trans (hb3.mono (by simp; omega))).alloc (by omega) _
  clear hb3 hx2 hy2 k2 H2
  go_upto_region 6 with fail
  generalize w3.alloc (.cells #[.int .i64 n2, .string r2, .int .i64 c2, .int .i64 s2] 65) = W at *
  have e0 := ha3.cell 0
  have e1 := ha3.cell 1
  have e2 := ha3.cell 2
  have e3 := ha3.cell 3
  have i0 := hd3.cell 0
  have i1 := hd3.cell 1
  have i2 := hd3.cell 2
  have i3 := hd3.cell 3
  go_wp2_with fail
  refine (HI.out _).mono ?_
  rintro e w4 ⟨rfl, hb4⟩
  have hx4 := hx3.grow hb4 hx3.lt
  have hy4 := hy3.grow hb4 hy3.lt
  have ha4 := ha3.grow hb4 ha3.lt
  have hd4 := hd3.grow hb4 hd3.lt
  have k4 : Below w.heap.size w w4 := k3.trans (hb4.mono (by have := hx3.lt; omega))
  clear hb4 hx3 hy3 k3 ha3 hd3 e0 e1 e2 e3 i0 i1 i2 i3 HI
  have q0 := hx4.cell 0
  have f0 := hx4.frozen 0
  have d0 := hy4.cell 0
  have g0 := hy4.frozen 0
  have q1 := hx4.cell 1
  have f1 := hx4.frozen 1
  have d1 := hy4.cell 1
  have g1 := hy4.frozen 1
  have q2 := hx4.cell 2
  have f2 := hx4.frozen 2
  have d2 := hy4.cell 2
  have g2 := hy4.frozen 2
  have q3 := hx4.cell 3
  have f3 := hx4.frozen 3
  have d3 := hy4.cell 3
  have g3 := hy4.frozen 3
  clear hx4 hy4 ha4 hd4 h86 hz hne l2 l3
  go_wp2_with fail
  refine bodyPost_ret (v := .tuple #[.agg #[.int .i64 0, .string ⟨#[]⟩, .int .i64 0, .int .i64 0], .agg #[.int .i64 0, .string ⟨#[]⟩, .int .i64 0, .int .i64 0], .bool false]) (by simp [results, Try.results37, go_sem, q0, q1, q2, q3, d0, d1, d2, d3]) rfl ⟨rfl, ?_⟩
  exact ((((((((k4.setCell (by simp) _).setCell (by simp) _).setCell (by simp) _).setCell (by simp) _).setCell (by simp) _).setCell (by simp) _).setCell (by simp) _).setCell (by simp) _)

set_option maxRecDepth 100000 in
set_option maxHeartbeats 2000000 in
theorem trevid_d (v : ByteArray) (w : World) (h23 : v.size = 23) (h86 : Pl.byt v 0 = 86) (n1 c1 s1 n2 c2 s2 : Nat) (r1 r2 : ByteArray)
    (H1 : Hid (∀ w, Calls Try.prog 56 #[.string ((v.extract 1 23).extract 0 11)] w fun e w' => e = .returned (.tuple #[.agg #[.int .i64 n1, .string r1, .int .i64 c1, .int .i64 s1], .bool true]) ∧ Below w.heap.size w w'))
    (H2 : Hid (∀ w, Calls Try.prog 56 #[.string ((v.extract 1 23).extract 11 22)] w fun e w' => e = .returned (.tuple #[.agg #[.int .i64 n2, .string r2, .int .i64 c2, .int .i64 s2], .bool true]) ∧ Below w.heap.size w w'))
    (HI : Hid (∀ w, Calls Try.prog 58 #[.agg #[.int .i64 n1, .string r1, .int .i64 c1, .int .i64 s1], .agg #[.int .i64 n2, .string r2, .int .i64 c2, .int .i64 s2]] w fun e w' => e = .returned (.bool true) ∧ Below w.heap.size w w')) :
    Calls Try.prog 37 #[.string v] w fun e w' => e = .returned (.tuple #[.agg #[.int .i64 n1, .string r1, .int .i64 c1, .int .i64 s1], .agg #[.int .i64 n2, .string r2, .int .i64 c2, .int .i64 s2], .bool true]) ∧ Below w.heap.size w w' := by
  have hne : ((v.size : Int) != 23) = false := by rw [h23]; rfl
  have HP : Hid (∀ w, Calls Try.prog 57 #[.string v, .string ⟨#[86]⟩] w fun e w' => e = .returned (.bool true) ∧ w' = w) := fun w => by
    have := hasPrefix_any v 86 w (by rw [h23]; decide) (by omega)
    rwa [decide_eq_true (show Pl.byt v 0 = (86 : UInt8).toNat from h86)] at this
  have hz : (v.extract 1 23).size = 22 := by rw [ByteArray.size_extract, h23]; rfl
  have hB0 := two_zero w
  have hx0 := zero_x w
  have hy0 := zero_y w
  go_enter Try.func37, Try.ntmps37
  go_wp2_with fail
  refine (HP.out _).mono ?_
  rintro e w1 ⟨rfl, rfl⟩
  go_wp2_with fail
  refine (H1.out _).mono ?_
  rintro e w2 ⟨rfl, hb2⟩
  have hx2 := hx0.grow hb2 hx0.lt
  have hy2 := hy0.grow hb2 hy0.lt
  have k2 : Below w.heap.size w w2 := hB0.trans (hb2.mono (by simp; omega))
  have l2 := hy2.lt
  clear hb2 hB0 hx0 hy0 H1 HP
  go_wp2_with fail
  refine (H2.out _).mono ?_
  rintro e w3 ⟨rfl, hb3⟩
  have hx3 := ((hx2.alloc (.cells #[.int .i64 n1, .string r1, .int .i64 c1, .int .i64 s1] 65)).grow hb3 (by simp; omega)).alloc (.cells #[.int .i64 n2, .string r2, .int .i64 c2, .int .i64 s2] 65)
  have hy3 := ((hy2.alloc (.cells #[.int .i64 n1, .string r1, .int .i64 c1, .int .i64 s1] 65)).grow hb3 (by simp; omega)).alloc (.cells #[.int .i64 n2, .string r2, .int .i64 c2, .int .i64 s2] 65)
  have ha3 := ((Box.new w2 65 [.int .i64 n1, .string r1, .int .i64 c1, .int .i64 s1]).grow hb3 (by simp))
  have l3 := ha3.lt
  have ha3 := ha3.alloc (.cells #[.int .i64 n2, .string r2, .int .i64 c2, .int .i64 s2] 65)
  have hd3 := Box.new w3 65 [.int .i64 n2, .string r2, .int .i64 c2, .int .i64 s2]
  have k3 : Below w.heap.size w (w3.alloc (.cells #[.int .i64 n2, .string r2, .int .i64 c2, .int .i64 s2] 65)) := ((k2.alloc (by omega) _).trans (hb3.mono (by simp; omega))).alloc (by omega) _
  clear hb3 hx2 hy2 k2 H2
  go_upto_region 6 with fail
  generalize w3.alloc (.cells #[.int .i64 n2, .string r2, .int .i64 c2, .int .i64 s2] 65) = W at *
  have e0 := ha3.cell 0
  have e1 := ha3.cell 1
  have e2 := ha3.cell 2
  have e3 := ha3.cell 3
  have i0 := hd3.cell 0
  have i1 := hd3.cell 1
  have i2 := hd3.cell 2
  have i3 := hd3.cell 3
  go_wp2_with fail
  refine (HI.out _).mono ?_
  rintro e w4 ⟨rfl, hb4⟩
  have hx4 := hx3.grow hb4 hx3.lt
  have hy4 := hy3.grow hb4 hy3.lt
  have ha4 := ha3.grow hb4 ha3.lt
  have hd4 := hd3.grow hb4 hd3.lt
  have k4 : Below w.heap.size w w4 := k3.trans (hb4.mono (by have := hx3.lt; omega))
  clear hb4 hx3 hy3 k3 ha3 hd3 e0 e1 e2 e3 i0 i1 i2 i3 HI
  have q0 := hx4.cell 0
  have f0 := hx4.frozen 0
  have d0 := hy4.cell 0
  have g0 := hy4.frozen 0
  have q1 := hx4.cell 1
  have f1 := hx4.frozen 1
  have d1 := hy4.cell 1
  have g1 := hy4.frozen 1
  have q2 := hx4.cell 2
  have f2 := hx4.frozen 2
  have d2 := hy4.cell 2
  have g2 := hy4.frozen 2
  have q3 := hx4.cell 3
  have f3 := hx4.frozen 3
  have d3 := hy4.cell 3
  have g3 := hy4.frozen 3
  have e0 := ha4.cell 0
  have e1 := ha4.cell 1
  have e2 := ha4.cell 2
  have e3 := ha4.cell 3
  have i0 := hd4.cell 0
  have i1 := hd4.cell 1
  have i2 := hd4.cell 2
  have i3 := hd4.cell 3
  have hn1 : ¬ w2.heap.size = w.heap.size := by omega
  have hn2 : ¬ w3.heap.size = w.heap.size := by omega
  have hn3 : ¬ w2.heap.size = w.heap.size + 1 := by omega
  have hn4 : ¬ w3.heap.size = w.heap.size + 1 := by omega
  have hn5 : ¬ w.heap.size = w2.heap.size := by omega
  have hn6 : ¬ w.heap.size = w3.heap.size := by omega
  have hn7 : ¬ w.heap.size + 1 = w2.heap.size := by omega
  have hn8 : ¬ w.heap.size + 1 = w3.heap.size := by omega
  clear hx4 hy4 ha4 hd4 h86 hz hne l2 l3
  go_wp2_with fail
  go_region
  all_goals
    go_wp2_with fail
    refine bodyPost_ret (v := .tuple #[.agg #[.int .i64 n1, .string r1, .int .i64 c1, .int .i64 s1], .agg #[.int .i64 n2, .string r2, .int .i64 c2, .int .i64 s2], .bool true]) (by simp [results, Try.results37, go_sem, q0, q1, q2, q3, d0, d1, d2, d3]) rfl ⟨rfl, ?_⟩
    exact ((((((((k4.setCell (by simp) _).setCell (by simp) _).setCell (by simp) _).setCell (by simp) _).setCell (by simp) _).setCell (by simp) _).setCell (by simp) _).setCell (by simp) _).drew

theorem tread_at {b b' : ByteArray} (h : b' = b) {V : Value} {x : Bool} (hv : readV b = V) (hx : Pl.headB b = x) : Hid (∀ w, Calls Try.prog 56 #[.string b'] w fun e w' => e = .returned (.tuple #[V, .bool x]) ∧ Below w.heap.size w w') := by
  subst h hv hx
  exact fun w => tread_any _ w
theorem order_at {n1 c1 s1 n2 c2 s2 : Nat} {r1 r2 : ByteArray} {x : Bool} (hx : (decide (n1 = n2) && Op.bytesLess r1.toList r2.toList) = x) : Hid (∀ w, Calls Try.prog 58 #[.agg #[.int .i64 n1, .string r1, .int .i64 c1, .int .i64 s1], .agg #[.int .i64 n2, .string r2, .int .i64 c2, .int .i64 s2]] w fun e w' => e = .returned (.bool x) ∧ Below w.heap.size w w') := by
  subst hx
  exact fun w => tinorder_any _ _ _ _ _ _ _ _ w

theorem trevid_any (v : ByteArray) (w : World) :
    Calls Try.prog 37 #[.string v] w fun e w' => e = .returned (.tuple #[evV1 v, evV2 v, .bool (evB v)]) ∧ Below w.heap.size w w' := by
  by_cases h : v.size = 23 ∧ Pl.byt v 0 = 86
  · obtain ⟨h23, h86⟩ := h
    have hB : evB v = (Pl.headB (v.extract 1 12) && (Pl.headB (v.extract 12 23) && (decide (Pl.hSize (v.extract 1 12) = Pl.hSize (v.extract 12 23)) && Op.bytesLess (Pl.hRoot (v.extract 1 12)).toList (Pl.hRoot (v.extract 12 23)).toList))) := by
      unfold evB
      rw [decide_eq_true h23, decide_eq_true h86, Bool.true_and, Bool.true_and]
    obtain ⟨n1, c1, s1, r1, hv1, hw1⟩ := readV_form (v.extract 1 12)
    obtain ⟨n2, c2, s2, r2, hv2, hw2⟩ := readV_form (v.extract 12 23)
    cases xa : Pl.headB (v.extract 1 12) with
    | false =>
      rw [ev_no (by rw [hB, xa]; rfl)]
      exact trevid_a v w h23 h86 n1 c1 s1 n2 c2 s2 r1 r2 _ (tread_at (ev_part1 v) hv1 xa) (tread_at (ev_part2 v) hv2 rfl)
    | true =>
      cases xb : Pl.headB (v.extract 12 23) with
      | false =>
        rw [ev_no (by rw [hB, xa, xb]; rfl)]
        exact trevid_b v w h23 h86 n1 c1 s1 n2 c2 s2 r1 r2 (tread_at (ev_part1 v) hv1 xa) (tread_at (ev_part2 v) hv2 xb)
      | true =>
        have hw1 := hw1 xa
        have hw2 := hw2 xb
        have hB2 : evB v = (decide (n1 = n2) && Op.bytesLess r1.toList r2.toList) := by
          rw [hB, xa, xb, hw1.1, hw1.2.1, hw2.1, hw2.2.1]
          rfl
        cases xi : (decide (n1 = n2) && Op.bytesLess r1.toList r2.toList) with
        | false =>
          rw [ev_no (by rw [hB2, xi])]
          exact trevid_c v w h23 h86 n1 c1 s1 n2 c2 s2 r1 r2 (tread_at (ev_part1 v) hv1 xa) (tread_at (ev_part2 v) hv2 xb) (order_at xi)
        | true =>
          have ht : evB v = true := by rw [hB2, xi]
          have e1 : evV1 v = readV (v.extract 1 12) := if_pos ht
          have e2 : evV2 v = readV (v.extract 12 23) := if_pos ht
          rw [e1, e2, ht, hv1, hv2]
          exact trevid_d v w h23 h86 n1 c1 s1 n2 c2 s2 r1 r2 (tread_at (ev_part1 v) hv1 xa) (tread_at (ev_part2 v) hv2 xb) (order_at xi)
  · have hf : evB v = false := by
      unfold evB
      by_cases h1 : v.size = 23
      · have h2 : ¬ Pl.byt v 0 = 86 := fun h2 => h ⟨h1, h2⟩
        simp [h2]
      · simp [h1]
    rw [ev_no hf]
    exact trevid_form v w (by by_cases h1 : v.size = 23; exact Or.inr fun h2 => h ⟨h1, h2⟩; exact Or.inl h1)

end Go.Proofs.Ytkhnjipjbhcgdab
