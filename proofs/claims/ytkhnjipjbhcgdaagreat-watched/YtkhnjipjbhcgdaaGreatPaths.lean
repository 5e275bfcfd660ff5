import Derived.Test.YtkhnjipjbhcgdaaGreatIncl
/-
  THE WALKS of treeheadlaw.included, treeheadlaw.extended, treeheadlaw.Paths.
-/
namespace Go.Proofs.YtkhnjipjbhcgdaaGreat
open Go.RowKit

theorem Own.only {w w' : World} {B B' : Nat} {v : Value} {ss : List ByteArray} (h : Own w B v ss) (ho : Only B' w w') (hB : B' < B) : Own w' B v ss := by
  refine ⟨h.1, ?_⟩
  rcases h.2 with hn | ⟨g, cap, cur, rfl, hb, hg, rest⟩
  · exact Or.inl hn
  · refine Or.inr ⟨g, cap, cur, rfl, hb, ?_, rest⟩
    rw [ho.block g (by omega)]
    exact hg

/-- What Include is to answer: the list. -/
def inclP (ss : List ByteArray) (c : Int) : List ByteArray := if inclB ss c = true then Pl.path ss c.toNat else []
theorem inclP_sizes (ss : List ByteArray) (c : Int) : ∀ s ∈ inclP ss c, s.size ≤ maxLen := by
  intro s hs
  unfold inclP at hs
  split at hs
  · rw [Pl.path_sizes ss.length ss c.toNat (Nat.le_refl _) s hs]; decide
  · cases hs
theorem inclP_length (ss : List ByteArray) (c : Int) (h : ss.length ≤ maxLen) : (inclP ss c).length ≤ maxLen := by
  unfold inclP
  split
  · exact Nat.le_trans (Pl.path_length ss.length ss c.toNat (Nat.le_refl _)) h
  · simp

set_option maxRecDepth 100000 in
set_option maxHeartbeats 1000000 in
theorem included_yes (a : Addr) (cap : Nat) (ss : List ByteArray) (c : Int) (w : World) (hr : Row w (some a) ss) (hc : ss.length ≤ cap) (hm : cap ≤ 9223372036854775807) (hl : 16 * (ss.length + 8) ≤ 281474976710656) (h : inclB ss c = true) :
    Calls Tryz.prog 14 #[.slice (some a) ss.length cap, .int .i64 c] w fun e w' => ∃ v, e = .returned (.tuple #[v, .bool true]) ∧ Own w' w.heap.size v (inclP ss c) ∧ Below w.heap.size w w' := by
  have HP : Hid (inclP ss c = Pl.path ss c.toNat) := if_pos h
  have HZ : Hid (∀ s ∈ Pl.path ss c.toNat, s.size ≤ maxLen) := by have := inclP_sizes ss c; rw [HP.out] at this; exact this
  have HN : Hid ((Pl.path ss c.toNat).length ≤ maxLen) := by have := inclP_length ss c hr.len; rw [HP.out] at this; exact this
  rw [HP.out]
  go_enter Tryz.func14, Tryz.ntmps14
  go_wp2_with fail
  refine (handed_some a cap ss w hr hl).mono ?_
  rintro e w1 ⟨rfl, rfl⟩
  go_wp2_with fail
  refine (tincl_yes _ _ ss c _ (by omega) (by omega) (Row.new w ss hr.len hr.size) h).mono ?_
  rintro e w2 ⟨v2, rfl, ho2, hb⟩
  have hr2 : Row w2 (some a) ss := (hr.grow ((Below.refl _ _).alloc (Nat.le_refl _) _) (Nat.le_refl _)).grow hb (Nat.le_refl _)
  have hg2 : w2.heap[w.heap.size]? = some (.cells (rowOf ss 8).toArray 9 (0, 0)) := by
    rw [hb.block _ (by simp)]
    exact Array.getElem?_push_size ..
  have hb2 : Below w.heap.size w w2 := ((Below.refl _ _).alloc (Nat.le_refl _) _).trans (hb.mono (by simp))
  have HO2 : Hid (Own w2 (w.heap.size + 1) v2 (Pl.path ss c.toNat)) := ho2.mono (by simp)
  clear hb ho2
  go_wp2_with fail
  refine (still_some w.heap.size (some a) cap ss w2 hr2 (hr.ne (Nat.le_refl _)) hg2 hl).mono ?_
  rintro e w3 ⟨rfl, ho⟩
  have hr3 : Row w3 (some a) ss := hr2.only ho (hr.ne (Nat.le_refl _))
  have hb3 : Below w.heap.size w w3 := hb2.trans (ho.below (Nat.le_refl _))
  have HO3 : Hid (Own w3 (w.heap.size + 1) v2 (Pl.path ss c.toNat)) := HO2.out.only ho (by omega)
  clear ho hb2 hg2 hr2 hr HO2
  go_wp2_with fail
  refine (rincl_yes _ _ ss c _ hc hm hr3 h).mono ?_
  rintro e w4 ⟨v4, rfl, ho4, hb4⟩
  have HO5 : Hid (Own w4 (w.heap.size + 1) v2 (Pl.path ss c.toNat)) := HO3.out.grow hb4
  have HO4 : Hid (Own w4 w3.heap.size v4 (Pl.path ss c.toNat)) := ho4
  clear ho4 HO3 hr3
  go_wp2_with fail
  refine (same_own v2 v4 _ _ (Pl.path ss c.toNat) _ HO5.out HO4.out HZ.out HN.out).mono ?_
  rintro e w5 ⟨rfl, hb5, n, rfl⟩
  go_wp2_with fail
  go_ret2
  have k4 := hb3.trans (hb4.mono hb3.size)
  exact ⟨_, rfl, (HO5.out.grow hb5).mono (by omega), k4.trans (hb5.mono k4.size)⟩

theorem nob {f : Nat} {args : Array Value} {w : World} {e0 : Ending} (h : Calls Tryz.prog f args w fun e w' => e = e0 ∧ w' = w) : Calls Tryz.prog f args w fun e w' => e = e0 ∧ Below w.heap.size w w' :=
  h.mono fun _ _ ⟨he, hw⟩ => ⟨he, by rw [hw]; exact Below.refl _ _⟩

set_option maxRecDepth 100000 in
set_option maxHeartbeats 1000000 in
theorem included_no (a : Addr) (cap : Nat) (ss : List ByteArray) (c : Int) (w : World) (hr : Row w (some a) ss) (hl : 16 * (ss.length + 8) ≤ 281474976710656) (h : inclB ss c = false) :
    Calls Tryz.prog 14 #[.slice (some a) ss.length cap, .int .i64 c] w fun e w' => ∃ v, e = .returned (.tuple #[v, .bool true]) ∧ Own w' w.heap.size v (inclP ss c) ∧ Below w.heap.size w w' := by
  have HP : Hid (inclP ss c = []) := if_neg (by rw [h]; simp)
  rw [HP.out]
  have hq := fun w => Lib.run_eql_slice_nil (P := Tryz.prog) w 32 9 none 0 0 0 0 Tryz.underlying32
  go_enter Tryz.func14, Tryz.ntmps14
  go_wp2_with fail
  refine (handed_some a cap ss w hr hl).mono ?_
  rintro e w1 ⟨rfl, rfl⟩
  go_wp2_with fail
  refine (nob (tincl_no _ _ ss c _ (Row.new w ss hr.len hr.size) h)).mono ?_
  rintro e w2 ⟨rfl, hb⟩
  have hr2 : Row w2 (some a) ss := (hr.grow ((Below.refl _ _).alloc (Nat.le_refl _) _) (Nat.le_refl _)).grow hb (Nat.le_refl _)
  have hg2 : w2.heap[w.heap.size]? = some (.cells (rowOf ss 8).toArray 9 (0, 0)) := by
    rw [hb.block _ (by simp)]
    exact Array.getElem?_push_size ..
  have hb2 : Below w.heap.size w w2 := ((Below.refl _ _).alloc (Nat.le_refl _) _).trans (hb.mono (by simp))
  clear hb
  go_wp2_with fail
  refine (still_some w.heap.size (some a) cap ss w2 hr2 (hr.ne (Nat.le_refl _)) hg2 hl).mono ?_
  rintro e w3 ⟨rfl, ho⟩
  have hr3 : Row w3 (some a) ss := hr2.only ho (hr.ne (Nat.le_refl _))
  have hb3 : Below w.heap.size w w3 := hb2.trans (ho.below (Nat.le_refl _))
  clear ho hb2 hg2 hr2 hr
  go_wp2_with fail
  refine (nob (rincl_no _ _ ss c _ hr3 h)).mono ?_
  rintro e w4 ⟨rfl, hb4⟩
  clear hr3
  go_wp2_with fail
  refine (same_own _ _ 0 0 [] _ (own_nil _ _) (own_nil _ _) (by simp) (by simp)).mono ?_
  rintro e w5 ⟨rfl, hb5, n, rfl⟩
  go_wp2_with fail
  go_ret2
  have k4 := hb3.trans (hb4.mono hb3.size)
  exact ⟨_, rfl, own_nil _ _, k4.trans (hb5.mono k4.size)⟩

set_option maxRecDepth 100000 in
set_option maxHeartbeats 1000000 in
theorem included_nil (c : Int) (w : World) :
    Calls Tryz.prog 14 #[.slice none 0 0, .int .i64 c] w fun e w' => ∃ v, e = .returned (.tuple #[v, .bool true]) ∧ Own w' w.heap.size v (inclP [] c) ∧ Below w.heap.size w w' := by
  have h : inclB [] c = false := by
    cases hb : inclB [] c with
    | false => rfl
    | true => obtain ⟨_, i, _, hi⟩ := inclB_yes hb; simp at hi
  have HP : Hid (inclP [] c = []) := if_neg (by rw [h]; simp)
  rw [HP.out]
  have hq := fun w => Lib.run_eql_slice_nil (P := Tryz.prog) w 32 9 none 0 0 0 0 Tryz.underlying32
  go_enter Tryz.func14, Tryz.ntmps14
  go_wp2_with fail
  refine (handed_nil w).mono ?_
  rintro e w1 ⟨rfl, rfl⟩
  go_wp2_with fail
  refine (nob (tincl_no none 0 [] c _ (row_nil _) h)).mono ?_
  rintro e w2 ⟨rfl, hb⟩
  go_wp2_with fail
  refine (still_nil _).mono ?_
  rintro e w3 ⟨rfl, rfl⟩
  go_wp2_with fail
  refine (nob (rincl_no none 0 [] c _ (row_nil _) h)).mono ?_
  rintro e w4 ⟨rfl, hb4⟩
  go_wp2_with fail
  refine (same_own _ _ 0 0 [] _ (own_nil _ _) (own_nil _ _) (by simp) (by simp)).mono ?_
  rintro e w5 ⟨rfl, hb5, n, rfl⟩
  go_wp2_with fail
  go_ret2
  have k4 := hb.trans (hb4.mono hb.size)
  exact ⟨_, rfl, own_nil _ _, k4.trans (hb5.mono k4.size)⟩

theorem included_row (v : Value) (ss : List ByteArray) (c : Int) (w : World) (hr : IsRow w v ss) :
    Calls Tryz.prog 14 #[v, .int .i64 c] w fun e w' => ∃ v', e = .returned (.tuple #[v', .bool true]) ∧ Own w' w.heap.size v' (inclP ss c) ∧ Below w.heap.size w w' := by
  rcases hr with ⟨rfl, rfl⟩ | ⟨a, cap, rfl, hc, hm, hr⟩
  · exact included_nil c w
  · cases h : inclB ss c with
    | true => exact included_yes a cap ss c w hr hc (by omega) (by omega) h
    | false => exact included_no a cap ss c w hr (by omega) h

theorem ext_nat {ss : List ByteArray} {c : Int} (h : extB ss c = true) : 1 ≤ c.toNat ∧ c.toNat ≤ ss.length := by
  obtain ⟨_, i, rfl, h1, h2⟩ := extB_yes h
  rw [Int.toNat_natCast]
  exact ⟨h1, h2⟩
/-- What Extend is to answer: the list. -/
def extP (ss : List ByteArray) (c : Int) : List ByteArray := if extB ss c = true then Pl.parts ss c.toNat true else []
theorem extP_sizes (ss : List ByteArray) (c : Int) : ∀ s ∈ extP ss c, s.size ≤ maxLen := by
  intro s hs
  unfold extP at hs
  split at hs
  · rw [Pl.parts_sizes ss.length ss c.toNat true (Nat.le_refl _) (ext_nat ‹_›).1 (ext_nat ‹_›).2 s hs]; decide
  · cases hs
theorem extP_length (ss : List ByteArray) (c : Int) (h : ss.length ≤ maxLen) : (extP ss c).length ≤ maxLen := by
  unfold extP
  split
  · exact Nat.le_trans (Pl.parts_length ss.length ss c.toNat true (Nat.le_refl _) (ext_nat ‹_›).1 (ext_nat ‹_›).2) h
  · simp

set_option maxRecDepth 100000 in
set_option maxHeartbeats 1000000 in
theorem extended_yes (a : Addr) (cap : Nat) (ss : List ByteArray) (c : Int) (w : World) (hr : Row w (some a) ss) (hc : ss.length ≤ cap) (hm : cap ≤ 9223372036854775807) (hl : 16 * (ss.length + 8) ≤ 281474976710656) (h : extB ss c = true) :
    Calls Tryz.prog 16 #[.slice (some a) ss.length cap, .int .i64 c] w fun e w' => ∃ v, e = .returned (.tuple #[v, .bool true]) ∧ Own w' w.heap.size v (extP ss c) ∧ Below w.heap.size w w' := by
  have HP : Hid (extP ss c = Pl.parts ss c.toNat true) := if_pos h
  have HZ : Hid (∀ s ∈ Pl.parts ss c.toNat true, s.size ≤ maxLen) := by have := extP_sizes ss c; rw [HP.out] at this; exact this
  have HN : Hid ((Pl.parts ss c.toNat true).length ≤ maxLen) := by have := extP_length ss c hr.len; rw [HP.out] at this; exact this
  rw [HP.out]
  go_enter Tryz.func16, Tryz.ntmps16
  go_wp2_with fail
  refine (handed_some a cap ss w hr hl).mono ?_
  rintro e w1 ⟨rfl, rfl⟩
  go_wp2_with fail
  refine (text_yes _ _ ss c _ (by omega) (by omega) (Row.new w ss hr.len hr.size) h).mono ?_
  rintro e w2 ⟨v2, rfl, ho2, hb⟩
  have hr2 : Row w2 (some a) ss := (hr.grow ((Below.refl _ _).alloc (Nat.le_refl _) _) (Nat.le_refl _)).grow hb (Nat.le_refl _)
  have hg2 : w2.heap[w.heap.size]? = some (.cells (rowOf ss 8).toArray 9 (0, 0)) := by
    rw [hb.block _ (by simp)]
    exact Array.getElem?_push_size ..
  have hb2 : Below w.heap.size w w2 := ((Below.refl _ _).alloc (Nat.le_refl _) _).trans (hb.mono (by simp))
  have HO2 : Hid (Own w2 (w.heap.size + 1) v2 (Pl.parts ss c.toNat true)) := ho2.mono (by simp)
  clear hb ho2
  go_wp2_with fail
  refine (still_some w.heap.size (some a) cap ss w2 hr2 (hr.ne (Nat.le_refl _)) hg2 hl).mono ?_
  rintro e w3 ⟨rfl, ho⟩
  have hr3 : Row w3 (some a) ss := hr2.only ho (hr.ne (Nat.le_refl _))
  have hb3 : Below w.heap.size w w3 := hb2.trans (ho.below (Nat.le_refl _))
  have HO3 : Hid (Own w3 (w.heap.size + 1) v2 (Pl.parts ss c.toNat true)) := HO2.out.only ho (by omega)
  clear ho hb2 hg2 hr2 hr HO2
  go_wp2_with fail
  refine (rext_yes _ _ ss c _ hc hm hr3 h).mono ?_
  rintro e w4 ⟨v4, rfl, ho4, hb4⟩
  have HO5 : Hid (Own w4 (w.heap.size + 1) v2 (Pl.parts ss c.toNat true)) := HO3.out.grow hb4
  have HO4 : Hid (Own w4 w3.heap.size v4 (Pl.parts ss c.toNat true)) := ho4
  clear ho4 HO3 hr3
  go_wp2_with fail
  refine (same_own v2 v4 _ _ (Pl.parts ss c.toNat true) _ HO5.out HO4.out HZ.out HN.out).mono ?_
  rintro e w5 ⟨rfl, hb5, n, rfl⟩
  go_wp2_with fail
  go_ret2
  have k4 := hb3.trans (hb4.mono hb3.size)
  exact ⟨_, rfl, (HO5.out.grow hb5).mono (by omega), k4.trans (hb5.mono k4.size)⟩

set_option maxRecDepth 100000 in
set_option maxHeartbeats 1000000 in
theorem extended_no (a : Addr) (cap : Nat) (ss : List ByteArray) (c : Int) (w : World) (hr : Row w (some a) ss) (hl : 16 * (ss.length + 8) ≤ 281474976710656) (h : extB ss c = false) :
    Calls Tryz.prog 16 #[.slice (some a) ss.length cap, .int .i64 c] w fun e w' => ∃ v, e = .returned (.tuple #[v, .bool true]) ∧ Own w' w.heap.size v (extP ss c) ∧ Below w.heap.size w w' := by
  have HP : Hid (extP ss c = []) := if_neg (by rw [h]; simp)
  rw [HP.out]
  have hq := fun w => Lib.run_eql_slice_nil (P := Tryz.prog) w 32 9 none 0 0 0 0 Tryz.underlying32
  go_enter Tryz.func16, Tryz.ntmps16
  go_wp2_with fail
  refine (handed_some a cap ss w hr hl).mono ?_
  rintro e w1 ⟨rfl, rfl⟩
  go_wp2_with fail
  refine (nob (text_no _ _ ss c _ (Row.new w ss hr.len hr.size) h)).mono ?_
  rintro e w2 ⟨rfl, hb⟩
  have hr2 : Row w2 (some a) ss := (hr.grow ((Below.refl _ _).alloc (Nat.le_refl _) _) (Nat.le_refl _)).grow hb (Nat.le_refl _)
  have hg2 : w2.heap[w.heap.size]? = some (.cells (rowOf ss 8).toArray 9 (0, 0)) := by
    rw [hb.block _ (by simp)]
    exact Array.getElem?_push_size ..
  have hb2 : Below w.heap.size w w2 := ((Below.refl _ _).alloc (Nat.le_refl _) _).trans (hb.mono (by simp))
  clear hb
  go_wp2_with fail
  refine (still_some w.heap.size (some a) cap ss w2 hr2 (hr.ne (Nat.le_refl _)) hg2 hl).mono ?_
  rintro e w3 ⟨rfl, ho⟩
  have hr3 : Row w3 (some a) ss := hr2.only ho (hr.ne (Nat.le_refl _))
  have hb3 : Below w.heap.size w w3 := hb2.trans (ho.below (Nat.le_refl _))
  clear ho hb2 hg2 hr2 hr
  go_wp2_with fail
  refine (nob (rext_no _ _ ss c _ hr3 h)).mono ?_
  rintro e w4 ⟨rfl, hb4⟩
  clear hr3
  go_wp2_with fail
  refine (same_own _ _ 0 0 [] _ (own_nil _ _) (own_nil _ _) (by simp) (by simp)).mono ?_
  rintro e w5 ⟨rfl, hb5, n, rfl⟩
  go_wp2_with fail
  go_ret2
  have k4 := hb3.trans (hb4.mono hb3.size)
  exact ⟨_, rfl, own_nil _ _, k4.trans (hb5.mono k4.size)⟩

set_option maxRecDepth 100000 in
set_option maxHeartbeats 1000000 in
theorem extended_nil (c : Int) (w : World) :
    Calls Tryz.prog 16 #[.slice none 0 0, .int .i64 c] w fun e w' => ∃ v, e = .returned (.tuple #[v, .bool true]) ∧ Own w' w.heap.size v (extP [] c) ∧ Below w.heap.size w w' := by
  have h : extB [] c = false := by
    cases hb : extB [] c with
    | false => rfl
    | true => obtain ⟨_, i, _, hi, hi2⟩ := extB_yes hb; simp at hi2; omega
  have HP : Hid (extP [] c = []) := if_neg (by rw [h]; simp)
  rw [HP.out]
  have hq := fun w => Lib.run_eql_slice_nil (P := Tryz.prog) w 32 9 none 0 0 0 0 Tryz.underlying32
  go_enter Tryz.func16, Tryz.ntmps16
  go_wp2_with fail
  refine (handed_nil w).mono ?_
  rintro e w1 ⟨rfl, rfl⟩
  go_wp2_with fail
  refine (nob (text_no none 0 [] c _ (row_nil _) h)).mono ?_
  rintro e w2 ⟨rfl, hb⟩
  go_wp2_with fail
  refine (still_nil _).mono ?_
  rintro e w3 ⟨rfl, rfl⟩
  go_wp2_with fail
  refine (nob (rext_no none 0 [] c _ (row_nil _) h)).mono ?_
  rintro e w4 ⟨rfl, hb4⟩
  go_wp2_with fail
  refine (same_own _ _ 0 0 [] _ (own_nil _ _) (own_nil _ _) (by simp) (by simp)).mono ?_
  rintro e w5 ⟨rfl, hb5, n, rfl⟩
  go_wp2_with fail
  go_ret2
  have k4 := hb.trans (hb4.mono hb.size)
  exact ⟨_, rfl, own_nil _ _, k4.trans (hb5.mono k4.size)⟩

theorem extended_row (v : Value) (ss : List ByteArray) (c : Int) (w : World) (hr : IsRow w v ss) :
    Calls Tryz.prog 16 #[v, .int .i64 c] w fun e w' => ∃ v', e = .returned (.tuple #[v', .bool true]) ∧ Own w' w.heap.size v' (extP ss c) ∧ Below w.heap.size w w' := by
  rcases hr with ⟨rfl, rfl⟩ | ⟨a, cap, rfl, hc, hm, hr⟩
  · exact extended_nil c w
  · cases h : extB ss c with
    | true => exact extended_yes a cap ss c w hr hc (by omega) (by omega) h
    | false => exact extended_no a cap ss c w hr (by omega) h

theorem abc_row (w : World) : IsRow (w.alloc (.cells (abc.map Value.string).toArray 9)) (.slice (some ⟨w.heap.size, 0, none⟩) abc.length 3) abc :=
  Or.inr ⟨_, 3, rfl, by decide, by decide, Row.lit w abc (by decide) abc_sizes⟩
theorem abc_incl : (inclP abc 1).length = 2 := by decide +kernel
theorem abc_ext : (extP abc 1).length = 2 := by decide +kernel

end Go.Proofs.YtkhnjipjbhcgdaaGreat
