import Derived.Test.YtkhnjipjbhcgdaaGreatTTwo
import Derived.BigQuiet
import Derived.Deep.RegionHeld3
/-
  THE WALKS of seals.whatIsSigned, MayBeHead, Sign, (Signed).Text.
-/
namespace Go.Proofs.YtkhnjipjbhcgdaaGreat
open Go.RowKit Hp

theorem said_sizes (r key size : Nat) (root : ByteArray) (hz : root.size = 4) : ∀ s ∈ [⟨#[83]⟩, Pl.two r, Pl.two key, Pl.two size, root], s.size ≤ maxLen := by
  intro s hs
  simp only [List.mem_cons, List.not_mem_nil, or_false] at hs
  rcases hs with rfl | rfl | rfl | rfl | rfl
  · decide
  · rw [Pl.two_size]; decide
  · rw [Pl.two_size]; decide
  · rw [Pl.two_size]; decide
  · rw [hz]; decide
theorem said_cat (r key size : Nat) (root : ByteArray) : Pl.cat [⟨#[83]⟩, Pl.two r, Pl.two key, Pl.two size, root] = (Pl.saidText key r size root).data.toList := by
  unfold Pl.saidText
  simp [Pl.cat, ByteArray.data_append]

set_option maxRecDepth 100000 in
set_option maxHeartbeats 4000000 in
theorem tsaid_any (key r size : Nat) (root : ByteArray) (w : World) (hk : key < 65536) (hr : r < 65536) (hs : size < 65536) (hz : root.size = 4) :
    Calls Tryz.prog 87 #[.int .i64 r, .int .i64 key, .agg #[.int .i64 size, .string root]] w fun e w' => e = .returned (.int .i64 (Pl.said key r size root : Nat)) ∧ Below w.heap.size w w' := by
  have HE : Hid (Pl.said key r size root = Pl.num (Pl.saidText key r size root).data.toList % 1019) := rfl
  have hnum := Pl.num_lt (Pl.saidText key r size root).data.toList
  have HN : Hid (∀ w : World, Calls Tryz.prog 83 #[.slice (some ⟨w.heap.size, 0, none⟩) 5 5] (w.alloc (.cells #[.string ⟨#[83]⟩, .string (Pl.two r), .string (Pl.two key), .string (Pl.two size), .string root] 9)) fun e w' => e = .returned (.int .i64 (Pl.num (Pl.saidText key r size root).data.toList : Nat)) ∧ w' = w.alloc (.cells #[.string ⟨#[83]⟩, .string (Pl.two r), .string (Pl.two key), .string (Pl.two size), .string root] 9)) := fun w => by
    have h := number_any (some ⟨w.heap.size, 0, none⟩) 5 [⟨#[83]⟩, Pl.two r, Pl.two key, Pl.two size, root] _ (row_lit w _ (by simp [maxLen]) (said_sizes r key size root hz))
    rw [said_cat] at h
    exact h
  generalize Pl.num (Pl.saidText key r size root).data.toList = N at *
  go_enter Tryz.func87, Tryz.ntmps87
  go_wp2_with fail
  have hB0 : Below w.heap.size w (w.alloc (.cells #[.int .i64 size, .string root] 59)).drew := ((Below.refl _ _).alloc (Nat.le_refl _) _).drew
  have q00 : (w.alloc (.cells #[.int .i64 size, .string root] 59)).drew.cell? ⟨w.heap.size, 0, none⟩ = some (.int .i64 size) := World.cell?_alloc_mark _ _ _ _ _
  have q01 : (w.alloc (.cells #[.int .i64 size, .string root] 59)).drew.cell? ⟨w.heap.size, 1, none⟩ = some (.string root) := World.cell?_alloc_mark _ _ _ _ _
  have hz0 : w.heap.size < (w.alloc (.cells #[.int .i64 size, .string root] 59)).drew.heap.size := by simp
  go_region_held3 (fun w' => w'.cell? ⟨w.heap.size, 0, none⟩ = some (.int .i64 size) ∧ w'.cell? ⟨w.heap.size, 1, none⟩ = some (.string root)) (go_keep) (first
    | (go_at_call_of 95 (Value.int .i64 (r : Int)); refine (ttwo_any r _ hr).mono ?_; rintro e w2 ⟨rfl, hb2⟩; obtain ⟨q20, q21, hz2⟩ := keep2 hb2 hz0 q00 q01)
    | (go_at_call_of 95 (Value.int .i64 (key : Int)); refine (ttwo_any key _ hk).mono ?_; rintro e w3 ⟨rfl, hb3⟩; obtain ⟨q30, q31, hz3⟩ := keep2 hb3 hz2 q20 q21)
    | (go_at_call_of 95 (Value.int .i64 (size : Int)); refine (ttwo_any size _ hs).mono ?_; rintro e w4 ⟨rfl, hb4⟩; obtain ⟨q40, q41, hz4⟩ := keep2 hb4 hz3 q30 q31)
    | (go_at_call 83; refine (HN.out _).mono ?_; rintro e w5 ⟨rfl, rfl⟩))
  all_goals
    go_wp2_with fail
    go_ret
    have k3 := hb2.trans (hb3.mono hb2.size)
    have k4 := k3.trans (hb4.mono k3.size)
    have k5 := hB0.trans (k4.mono (by simp))
    exact ⟨ret_int (by rw [HE.out, Int.tmod_eq_emod_of_nonneg (by omega)]; omega), k5.alloc (by have := k5.size; omega) _⟩

set_option maxRecDepth 100000 in
set_option maxHeartbeats 1000000 in
theorem tmayhead_any (size : Int) (root : ByteArray) (w : World) (hz : root.size ≤ maxLen) :
    Calls Tryz.prog 76 #[.agg #[.int .i64 size, .string root]] w fun e w' => e = .returned (.bool (decide (0 ≤ size) && decide (size ≤ 40) && Pl.isSumB root)) ∧ Below w.heap.size w w' := by
  have HI : Hid _ := fun w => tis_any root w hz
  have hB0 : Below w.heap.size w (w.alloc (.cells #[.int .i64 size, .string root] 59)) := (Below.refl _ _).alloc (Nat.le_refl _) _
  generalize Pl.isSumB root = x at *
  by_cases h1 : 0 ≤ size
  · by_cases h2 : size ≤ 40
    · rw [decide_eq_true h1, decide_eq_true h2, Bool.true_and, Bool.true_and]
      go_enter Tryz.func76, Tryz.ntmps76
      go_wp2_with fail
      refine (HI.out _).mono ?_
      rintro e w1 ⟨rfl, rfl⟩
      go_wp2_with fail
      go_ret
      exact ⟨rfl, hB0⟩
    · rw [decide_eq_true h1, decide_eq_false h2, Bool.true_and, Bool.false_and]
      go_enter Tryz.func76, Tryz.ntmps76
      go_wp2_with fail
      go_ret
      exact ⟨rfl, hB0⟩
  · rw [decide_eq_false h1, Bool.false_and, Bool.false_and]
    go_enter Tryz.func76, Tryz.ntmps76
    go_wp2_with fail
    go_ret
    exact ⟨rfl, hB0⟩

end Go.Proofs.YtkhnjipjbhcgdaaGreat

/-
  BOXES of the call's own: two cells (a head), four cells (a signed head).
-/
namespace Go.Proofs.YtkhnjipjbhcgdaaGreat
open Go.RowKit Hp

/-- Block B holds just these cells, and none is frozen. -/
def Box (w : World) (B : Nat) (t : TypeId) (l : List Value) : Prop := w.heap[B]? = some (.cells l.toArray t (0, 0))
theorem Box.lt {w : World} {B : Nat} {t : TypeId} {l : List Value} (h : Box w B t l) : B < w.heap.size := (Array.getElem?_eq_some_iff.1 h).1
theorem Box.cell {w : World} {B : Nat} {t : TypeId} {l : List Value} (h : Box w B t l) (k : Nat) : w.cell? ⟨B, k, none⟩ = l[k]? := by
  unfold Box at h
  simp [World.cell?, h]
theorem Box.frozen {w : World} {B : Nat} {t : TypeId} {l : List Value} (h : Box w B t l) (k : Nat) : w.frozen? ⟨B, k, none⟩ = false := by
  unfold Box at h
  simp [World.frozen?, h]
theorem Box.grow {w w' : World} {B n : Nat} {t : TypeId} {l : List Value} (h : Box w B t l) (hb : Below n w w') (hB : B < n) : Box w' B t l := by
  unfold Box
  rw [hb.block B hB]
  exact h
theorem Box.alloc {w : World} {B : Nat} {t : TypeId} {l : List Value} (h : Box w B t l) (o : Obj) : Box (w.alloc o) B t l :=
  h.grow ((Below.refl _ _).alloc (Nat.le_refl _) _) h.lt
theorem Box.drew {w : World} {B : Nat} {t : TypeId} {l : List Value} (h : Box w B t l) : Box w.drew B t l := h
theorem Box.new (w : World) (t : TypeId) (l : List Value) : Box (w.alloc (.cells l.toArray t)) w.heap.size t l := Array.getElem?_push_size ..
theorem Box.set {w : World} {B : Nat} {t : TypeId} {l : List Value} (h : Box w B t l) (k : Nat) (v : Value) : Box (w.setCell ⟨B, k, none⟩ v) B t (l.set k v) := by
  have hlt := h.lt
  have hv : w.heap[B] = .cells l.toArray t (0, 0) := (Array.getElem?_eq_some_iff.1 h).2
  unfold Box World.setCell
  rw [Array.getElem?_eq_getElem (by simpa using hlt), Array.getElem_modify]
  simp [hv]
theorem Box.other {w : World} {B B' : Nat} {t : TypeId} {l : List Value} (h : Box w B t l) (hne : B ≠ B') (k : Nat) (v : Value) : Box (w.setCell ⟨B', k, none⟩ v) B t l := by
  unfold Box
  rw [Below.heap_setCell _ _ _ _ hne]
  exact h
/-- Of what lay there block R alone has turned. -/
structure But (R : Nat) (w w' : World) : Prop where
  os : w'.os = w.os
  tape : w'.tape = w.tape
  output : w'.output = w.output
  size : w.heap.size ≤ w'.heap.size
  block : ∀ k, k < w.heap.size → k ≠ R → w'.heap[k]? = w.heap[k]?
theorem But.refl (R : Nat) (w : World) : But R w w := ⟨rfl, rfl, rfl, Nat.le_refl _, fun _ _ _ => rfl⟩
theorem But.of {R : Nat} {w w' : World} (h : Below w.heap.size w w') : But R w w' := ⟨h.os, h.tape, h.output, h.size, fun k hk _ => h.block k hk⟩
theorem But.trans {R : Nat} {a b c : World} (h1 : But R a b) (h2 : But R b c) : But R a c :=
  ⟨h2.os.trans h1.os, h2.tape.trans h1.tape, h2.output.trans h1.output, Nat.le_trans h1.size h2.size, fun k hk hR => (h2.block k (Nat.lt_of_lt_of_le hk h1.size) hR).trans (h1.block k hk hR)⟩
theorem But.drew {R : Nat} {a w : World} (h : But R a w) : But R a w.drew := h.trans (But.of ((Below.refl _ _).drew))
theorem But.setCell {R o : Nat} {a w : World} (h : But R a w) (u : Value) : But R a (w.setCell ⟨R, o, none⟩ u) :=
  ⟨h.os, h.tape, h.output, by simpa using h.size, fun k hk hR => by rw [Below.heap_setCell _ _ _ _ hR]; exact h.block k hk hR⟩
theorem But.below {R B : Nat} {a w : World} (h : But R a w) (hR : B ≤ R) (hB : B ≤ a.heap.size) : Below B a w :=
  ⟨h.os, h.tape, h.output, h.size, fun k hk => h.block k (by omega) (by omega)⟩
theorem Box.but {R B : Nat} {w w' : World} {t : TypeId} {l : List Value} (h : Box w B t l) (hb : But R w w') (hne : B ≠ R) : Box w' B t l := by
  unfold Box
  rw [hb.block B h.lt hne]
  exact h
theorem Row.but {R : Nat} {w w' : World} {p : Option Addr} {ss : List ByteArray} (hr : Row w p ss) (h : But R w w') (hB : ∀ b o, ss ≠ [] → p = some ⟨b, o, none⟩ → b ≠ R) : Row w' p ss := by
  refine ⟨hr.len, hr.size, ?_⟩
  rcases hr.cell with h0 | ⟨b, o, rfl, hb, hc⟩
  · exact Or.inl h0
  · exact Or.inr ⟨b, o, rfl, Nat.lt_of_lt_of_le hb h.size, fun i hi => by rw [World.cell?_of_block (w := w) (h.block b hb (hB b o (fun h0 => by simp [h0] at hi) rfl))]; exact hc i hi⟩

theorem tmod_fix (x : Int) : (if x.tmod 1019 < 0 then x.tmod 1019 + 1019 else x.tmod 1019) = x % 1019 := by
  have h : x.tmod 1019 = x % 1019 - ((if 0 ≤ x ∨ (1019 : Int) ∣ x then 0 else (1019 : Int).natAbs : Nat) : Int) := Int.tmod_eq_emod
  have hd : (1019 : Int).natAbs = 1019 := rfl
  by_cases hx : 0 ≤ x ∨ (1019 : Int) ∣ x
  · rw [if_pos hx] at h
    rw [h]
    split <;> omega
  · rw [if_neg hx, hd] at h
    have hx2 : ¬ (1019 : Int) ∣ x := fun hh => hx (Or.inr hh)
    rw [h]
    split <;> omega
theorem tmod_lt (x : Int) : -1019 < x.tmod 1019 ∧ x.tmod 1019 < 1019 := by
  have h := tmod_fix x
  have h2 : x.tmod 1019 = x % 1019 - ((if 0 ≤ x ∨ (1019 : Int) ∣ x then 0 else (1019 : Int).natAbs : Nat) : Int) := Int.tmod_eq_emod
  have hd : (1019 : Int).natAbs = 1019 := rfl
  rw [hd] at h2
  split at h <;> split at h2 <;> omega

end Go.Proofs.YtkhnjipjbhcgdaaGreat
