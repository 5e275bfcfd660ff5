import Derived.Test.YtkhnjipjbhcgdaaGreatPlainT
import Derived.Test.YtkhnjipjbhcgdaaGreatPlainK
import Derived.Test.YtkhnjipjbhcgdaaGreatPlainG
import Derived.Laws.Externs
import Derived.Lib.SliceRun
import Derived.Laws.CopyRow
import Derived.Laws.IdiomCopy
import Derived.Laws.IdiomStrings
import Derived.Deep.OwnRows
/-
  SMALL HELP for the walks of the program's own calls; it names no function of the document's answer.
-/
namespace Go.Proofs.YtkhnjipjbhcgdaaGreat.Hp
open Go.RowKit

theorem add_plain (b o j : Nat) : (⟨b, o, none⟩ : Addr).add j = ⟨b, o + j, none⟩ := by unfold Addr.add; split <;> simp_all
theorem byte_nat (b : Nat) (hb : b < 256) : (UInt8.ofNat b).toNat = b := by rw [UInt8.toNat_ofNat']; omega
theorem ret_bool {a b : Bool} (h : a = b) : Ending.returned (.bool a) = .returned (.bool b) := by rw [h]

theorem isSumB_long {s : ByteArray} (h : ¬ s.size = 4) : Pl.isSumB s = false := by simp [Pl.isSumB, h]
theorem isSumB_bad {s : ByteArray} (k : Nat) (hk : k < s.size) (h : Pl.digB s[k] = false) : Pl.isSumB s = false := by
  cases hb : Pl.isSumB s with
  | false => rfl
  | true =>
    simp only [Pl.isSumB, Bool.and_eq_true, List.all_eq_true] at hb
    have := hb.2 s[k] (by
      rw [show s[k] = s.data.toList[k]'(by simpa using hk) from rfl]
      exact List.getElem_mem _)
    rw [h] at this
    cases this
theorem isSumB_good {s : ByteArray} (h : s.size = 4) (ha : ∀ k (hk : k < s.size), Pl.digB s[k] = true) : Pl.isSumB s = true := by
  simp only [Pl.isSumB, Bool.and_eq_true, List.all_eq_true, decide_eq_true_eq]
  refine ⟨h, fun c hc => ?_⟩
  obtain ⟨k, hk, rfl⟩ := List.getElem_of_mem hc
  exact ha k (by simpa using hk)
theorem isSumB_size {s : ByteArray} (h : Pl.isSumB s = true) : s.size = 4 := by
  simp only [Pl.isSumB, Bool.and_eq_true, decide_eq_true_eq] at h
  exact h.1

theorem two_bytes (a b : Nat) (ha : a < 256) (hb : b < 256) (w : World) :
    (convert 87 9 (.slice (some ⟨w.heap.size, 0, none⟩) 2 2)).run Tryz.prog (w.alloc (.cells #[.int .u8 (a : Int), .int .u8 (b : Int)] 5)) =
      .ok (.string ⟨#[UInt8.ofNat a, UInt8.ofNat b]⟩) (w.alloc (.cells #[.int .u8 (a : Int), .int .u8 (b : Int)] 5)) := by
  have e1 : ((UInt8.ofNat a).toNat : Int) = (a : Int) := by rw [byte_nat a ha]
  have e2 : ((UInt8.ofNat b).toNat : Int) = (b : Int) := by rw [byte_nat b hb]
  have h := run_convert_bytes_back (P := Tryz.prog) (w.alloc (.cells #[.int .u8 ((UInt8.ofNat a).toNat : Int), .int .u8 ((UInt8.ofNat b).toNat : Int)] 5)) 87 9 5 ⟨w.heap.size, 0, none⟩ 2 [UInt8.ofNat a, UInt8.ofNat b] Tryz.underlying87 Tryz.underlying5 Tryz.underlying9 (by
    intro j hj
    rw [add_plain, World.cell?_alloc_mark]
    match j, hj with
    | 0, _ => rfl
    | 1, _ => rfl)
  rw [e1, e2] at h
  exact h
theorem keep2 {w1 w2 : World} {k : Nat} {a b : Value} (hb : Below w1.heap.size w1 w2) (hk : k < w1.heap.size) (h0 : w1.cell? ⟨k, 0, none⟩ = some a) (h1 : w1.cell? ⟨k, 1, none⟩ = some b) :
    w2.cell? ⟨k, 0, none⟩ = some a ∧ w2.cell? ⟨k, 1, none⟩ = some b ∧ k < w2.heap.size := by
  refine ⟨by rw [hb.cell (p := ⟨k, 0, none⟩) hk]; exact h0, by rw [hb.cell (p := ⟨k, 1, none⟩) hk]; exact h1, ?_⟩
  have := hb.size
  omega

theorem firstIdx_digits (c : UInt8) : (firstIdx ⟨#[48, 49, 50, 51, 52, 53, 54, 55, 56, 57, 97, 98, 99, 100, 101, 102]⟩ c < 0) ↔ Pl.digB c = false := by
  have h : ∀ k : Fin 256, decide (firstIdx ⟨#[48, 49, 50, 51, 52, 53, 54, 55, 56, 57, 97, 98, 99, 100, 101, 102]⟩ (UInt8.ofNat k.val) < 0) = (Pl.digB (UInt8.ofNat k.val) == false) := by decide +kernel
  have hc := h ⟨c.toNat, c.toNat_lt⟩
  rw [UInt8.ofNat_toNat] at hc
  constructor
  · intro hh
    rw [decide_eq_true hh] at hc
    exact beq_iff_eq.1 hc.symm
  · intro hh
    rw [hh] at hc
    exact of_decide_eq_true hc

theorem row_lit (w : World) (ss : List ByteArray) (hl : ss.length ≤ maxLen) (hs : ∀ s ∈ ss, s.size ≤ maxLen) : Row (w.alloc (.cells (ss.map Value.string).toArray 9)) (some ⟨w.heap.size, 0, none⟩) ss := by
  refine ⟨hl, hs, Or.inr ⟨w.heap.size, 0, rfl, by simp, fun i hi => ?_⟩⟩
  rw [Nat.zero_add, World.cell?_alloc_mark, List.getElem?_toArray]
  simp [hi]
theorem below_drewN {B : Nat} {a w : World} (h : Below B a w) (n : Nat) : Below B a (w.drewN n) := h.trans ⟨rfl, rfl, rfl, Nat.le_refl _, fun _ _ => rfl⟩
/-- Four cells, kept. -/
theorem keep4 {w1 w2 : World} {k : Nat} {a b c d : Value} (hb : Below w1.heap.size w1 w2) (hk : k < w1.heap.size) (h0 : w1.cell? ⟨k, 0, none⟩ = some a) (h1 : w1.cell? ⟨k, 1, none⟩ = some b) (h2 : w1.cell? ⟨k, 2, none⟩ = some c) (h3 : w1.cell? ⟨k, 3, none⟩ = some d) :
    w2.cell? ⟨k, 0, none⟩ = some a ∧ w2.cell? ⟨k, 1, none⟩ = some b ∧ w2.cell? ⟨k, 2, none⟩ = some c ∧ w2.cell? ⟨k, 3, none⟩ = some d ∧ k < w2.heap.size := by
  refine ⟨by rw [hb.cell (p := ⟨k, 0, none⟩) hk]; exact h0, by rw [hb.cell (p := ⟨k, 1, none⟩) hk]; exact h1, by rw [hb.cell (p := ⟨k, 2, none⟩) hk]; exact h2, by rw [hb.cell (p := ⟨k, 3, none⟩) hk]; exact h3, ?_⟩
  have := hb.size
  omega
end Go.Proofs.YtkhnjipjbhcgdaaGreat.Hp

/-
  THE WALKS of treeheadlaw.handed and treeheadlaw.still.
-/
namespace Go.Proofs.YtkhnjipjbhcgdaaGreat
open Go.RowKit

def mark : ByteArray := ⟨#[109, 97, 114, 107]⟩
def gone : ByteArray := ⟨#[119, 114, 105, 116, 116, 101, 110, 32, 111, 118, 101, 114]⟩
/-- What is handed over: the texts, k marks, and room for the other ones. -/
def rowOf (ss : List ByteArray) (k : Nat) : List Value := ss.map Value.string ++ (List.replicate k (.string mark) ++ List.replicate (8 - k) (.string ByteArray.empty))
theorem rowOf_length (ss : List ByteArray) (k : Nat) (h : k ≤ 8) : (rowOf ss k).length = ss.length + 8 := by simp [rowOf]; omega
theorem rowOf_set (ss : List ByteArray) (k : Nat) (h : k < 8) : (rowOf ss k).set (ss.length + k) (.string mark) = rowOf ss (k + 1) := by
  unfold rowOf
  rw [List.set_append_right _ _ (by simp), List.set_append_right _ _ (by simp), show 8 - k = (8 - (k + 1)) + 1 by omega, List.replicate_succ, List.replicate_succ' (n := k)]
  simp

theorem made_row (n : Nat) : madeCells #[.string ByteArray.empty] n = (List.replicate n (Value.string ByteArray.empty)).toArray := by
  apply Array.ext
  · simp [size_madeCells]
  · intro i h1 h2
    simp [madeCells, Nat.mod_one]

theorem add_plain (b o j : Nat) : (⟨b, o, none⟩ : Addr).add j = ⟨b, o + j, none⟩ := by unfold Addr.add; split <;> simp_all

theorem setRow_alloc (w : World) (a c : Array Value) (t : TypeId) : (w.alloc (.cells a t)).setRow w.heap.size c = w.alloc (.cells c t) := by
  cases w with
  | mk heap tape drawn os output =>
    unfold World.setRow
    show World.mk ((heap.push (.cells a t)).modify heap.size _) _ _ _ _ = World.mk (heap.push (.cells c t)) _ _ _ _
    congr 1
    apply Array.ext
    · simp
    · intro k h1 h2
      simp only [Array.getElem_modify, Array.getElem_push]
      by_cases hk : k < heap.size
      · have : ¬ heap.size = k := by omega
        simp [hk, this]
      · have : heap.size = k := by simp at h2; omega
        simp [this]

theorem copy_new (w : World) (p : Option Addr) (cap : Nat) (ss : List ByteArray) (ty : TypeId) (hr : Row w p ss) :
    (Builtin.copy_ #[32, 32] ty #[.slice (some ⟨w.heap.size, 0, none⟩) (ss.length + 8) (ss.length + 8), .slice p ss.length cap]).run Tryz.prog (w.alloc (.cells (List.replicate (ss.length + 8) (Value.string ByteArray.empty)).toArray 9)) =
      .ok (goInt ss.length) (w.alloc (.cells (rowOf ss 0).toArray 9)) := by
  rcases hr.cell with rfl | ⟨b, o, rfl, hb, hc⟩
  · rw [show (([] : List ByteArray).length) = 0 from rfl]
    rw [run_copy_none (P := Tryz.prog) _ 32 32 ty 9 _ _ _ _ _ _ Tryz.underlying32 (by kernel_rfl) (by simp)]
    rfl
  · have hx := run_copy_row (P := Tryz.prog) (w.alloc (.cells (List.replicate (ss.length + 8) (Value.string ByteArray.empty)).toArray 9)) 32 32 ty 9 w.heap.size 0 (ss.length + 8) (ss.length + 8) ⟨b, o, none⟩ ss.length cap (List.replicate (ss.length + 8) (Value.string ByteArray.empty)).toArray 9 (ss.map Value.string) Tryz.underlying32 (by kernel_rfl) (by exact Array.getElem?_push_size ..) (by simp) (by
      intro j v hj
      have hj' : j < ss.length := by
        have := (List.getElem?_eq_some_iff.1 hj).1
        simpa using this
      rw [add_plain, World.cell?_alloc_past _ _ _ hb, hc j hj']
      simpa [List.getElem?_eq_getElem hj'] using hj) (by simp) (by simp [Value.oneCell'])
    have e2 : (List.replicate (ss.length + 8) (Value.string ByteArray.empty)).toArray.toList.take 0 ++ ss.map Value.string ++ (List.replicate (ss.length + 8) (Value.string ByteArray.empty)).toArray.toList.drop (0 + (ss.map Value.string).length) = rowOf ss 0 := by
      simp [rowOf]
    rw [hx, setRow_alloc, e2, List.length_map]

set_option maxRecDepth 100000 in
set_option maxHeartbeats 400000 in
theorem handed_nil (w : World) :
    Calls Tryz.prog 26 #[.slice none 0 0] w fun e w' => e = .returned (.slice none 0 0) ∧ w' = w := by
  have hq := fun w => Lib.run_eql_slice_nil (P := Tryz.prog) w 32 9 none 0 0 0 0 Tryz.underlying32
  go_enter Tryz.func26, Tryz.ntmps26
  go_wp2
  go_ret
  exact ⟨rfl, rfl⟩

set_option maxRecDepth 100000 in
set_option maxHeartbeats 1000000 in
theorem handed_some (a : Addr) (cap : Nat) (ss : List ByteArray) (w : World) (hr : Row w (some a) ss) (hl : 16 * (ss.length + 8) ≤ 281474976710656) :
    Calls Tryz.prog 26 #[.slice (some a) ss.length cap] w fun e w' => e = .returned (.slice (some ⟨w.heap.size, 0, none⟩) (ss.length + 8) (ss.length + 8)) ∧ w' = w.alloc (.cells (rowOf ss 8).toArray 9) := by
  have hq := fun w => Lib.run_eql_slice_nil (P := Tryz.prog) w 32 9 (some a) ss.length cap 0 0 Tryz.underlying32
  have hmk := fun w => Go.run_make_row' (P := Tryz.prog) 32 9 (.string ByteArray.empty) 16 Tryz.underlying32 (by kernel_rfl) rfl .i64 .i64 (ss.length + 8) hl (by omega) w
  rw [made_row] at hmk
  have ec : ((ss.length + 8 : Nat) : Int) = (ss.length : Int) + 8 := by omega
  rw [ec] at hmk
  have hcp := fun ty => copy_new w (some a) cap ss ty hr
  have h0 : (rowOf ss 0).toArray.size = ss.length + 8 := by rw [List.size_toArray, rowOf_length _ _ (by omega)]
  have HM : Hid (∀ k, k < 8 → (rowOf ss k).set (ss.length + k) (.string mark) = rowOf ss (k + 1)) := fun k hk => rowOf_set ss k hk
  have HZ : Hid (∀ k, k ≤ 8 → (rowOf ss k).length = ss.length + 8) := fun k hk => rowOf_length ss k hk
  clear hr
  generalize ss.length = n at *
  generalize hE : (List.replicate (n + 8) (Value.string ByteArray.empty)).toArray = E at hmk hcp
  clear hE ec
  go_enter Tryz.func26, Tryz.ntmps26
  go_wp2
  clear hmk hcp hq h0
  go_loopw [5] (fun i wr => ∃ k : Nat, k ≤ 8 ∧ i = .int .i64 ((n + k : Nat) : Int) ∧ wr = w.alloc (.cells (rowOf ss k).toArray 9)) (fun i _ => n + 8 - (intOf i).toNat)
  case atStart => exact ⟨0, by omega, rfl, rfl⟩
  case round =>
    obtain ⟨k, hk, rfl, rfl⟩ := hrel
    by_cases hlt : k < 8
    · have hs := HZ.out k hk
      have h2 : Hid _ := HM.out k hlt
      go_wp2
      go_roundw
      case rel => exact ⟨k + 1, by omega, by go_num, by rw [← h2.out]; rfl⟩
      case measure => simp [intOf]; omega
    · go_wp2
      go_ret
      exact ⟨rfl, by rw [show k = 8 by omega]⟩

/-- Block B alone has turned. -/
structure Only (B : Nat) (w w' : World) : Prop where
  os : w'.os = w.os
  tape : w'.tape = w.tape
  output : w'.output = w.output
  size : w'.heap.size = w.heap.size
  block : ∀ k, k ≠ B → w'.heap[k]? = w.heap[k]?
theorem Only.refl (B : Nat) (w : World) : Only B w w := ⟨rfl, rfl, rfl, rfl, fun _ _ => rfl⟩
theorem Only.below {B B' : Nat} {w w' : World} (h : Only B w w') (hB : B' ≤ B) : Below B' w w' :=
  ⟨h.os, h.tape, h.output, by rw [h.size]; exact Nat.le_refl _, fun k hk => h.block k (by omega)⟩
theorem Only.setCell {B o : Nat} {a w : World} (h : Only B a w) (u : Value) : Only B a (w.setCell ⟨B, o, none⟩ u) :=
  ⟨h.os, h.tape, h.output, by rw [← h.size]; simp [World.setCell], fun k hk => by rw [Below.heap_setCell _ _ _ _ hk]; exact h.block k hk⟩

theorem Row.only {B : Nat} {w w' : World} {p : Option Addr} {ss : List ByteArray} (hr : Row w p ss) (h : Only B w w') (hB : ∀ b o, ss ≠ [] → p = some ⟨b, o, none⟩ → b ≠ B) : Row w' p ss := by
  refine ⟨hr.len, hr.size, ?_⟩
  rcases hr.cell with h0 | ⟨b, o, rfl, hb, hc⟩
  · exact Or.inl h0
  · exact Or.inr ⟨b, o, rfl, by rw [h.size]; exact hb, fun i hi => by rw [World.cell?_of_block (w := w) (h.block b (hB b o (fun h0 => by simp [h0] at hi) rfl))]; exact hc i hi⟩

/-- What is written over so far. -/
def overOf (ss : List ByteArray) (k : Nat) : List Value := List.replicate k (.string gone) ++ (rowOf ss 8).drop k

set_option maxRecDepth 100000 in
set_option maxHeartbeats 400000 in
theorem still_nil (w : World) :
    Calls Tryz.prog 28 #[.slice none 0 0, .slice none 0 0] w fun e w' => e = .returned (.bool true) ∧ w' = w := by
  go_enter Tryz.func28, Tryz.ntmps28
  go_wp2
  refine wp_loop_rounds 1 ?_
  rw [rounds_succ]
  go_wp2
  go_ret
  exact ⟨rfl, rfl⟩

theorem rowOf_at (ss : List ByteArray) (k : Nat) (h : k < ss.length) : (rowOf ss 8)[k]? = some (.string ss[k]) := by
  unfold rowOf
  rw [List.getElem?_append_left (by simpa using h)]
  simp [h]
theorem rowOf_mark (ss : List ByteArray) (k : Nat) (h : ¬ k < ss.length) (h2 : k < ss.length + 8) : (rowOf ss 8)[k]? = some (.string mark) := by
  unfold rowOf
  rw [List.getElem?_append_right (by simpa using h), List.getElem?_append_left (by simp; omega), List.getElem?_replicate, if_pos (by simp; omega)]
theorem overOf_at (ss : List ByteArray) (k : Nat) : (overOf ss k)[k]? = (rowOf ss 8)[k]? := by
  unfold overOf
  rw [List.getElem?_append_right (by simp)]
  simp
theorem overOf_set (ss : List ByteArray) (k : Nat) (h : k < ss.length + 8) : (overOf ss k).set k (.string gone) = overOf ss (k + 1) := by
  unfold overOf
  have hl := rowOf_length ss 8 (by omega)
  rw [List.set_append_right _ _ (by simp), List.length_replicate, Nat.sub_self, List.drop_eq_getElem_cons (by omega), List.replicate_succ']
  simp only [List.set_cons_zero, List.append_assoc, List.singleton_append]

theorem cell_row {w : World} {B : Nat} {l : List Value} {t : TypeId} (hg : w.heap[B]? = some (.cells l.toArray t (0, 0))) (k : Nat) : w.cell? ⟨B, k, none⟩ = l[k]? := by
  simp [World.cell?, hg]
theorem frozen_row {w : World} {B : Nat} {l : List Value} {t : TypeId} (hg : w.heap[B]? = some (.cells l.toArray t (0, 0))) (k : Nat) : w.frozen? ⟨B, k, none⟩ = false := by
  simp [World.frozen?, hg]
theorem set_row {w : World} {B : Nat} {l : List Value} {t : TypeId} (hg : w.heap[B]? = some (.cells l.toArray t (0, 0))) (k : Nat) (v : Value) : (w.setCell ⟨B, k, none⟩ v).heap[B]? = some (.cells (l.set k v).toArray t (0, 0)) := by
  have hlt : B < w.heap.size := (Array.getElem?_eq_some_iff.1 hg).1
  have hv : w.heap[B] = .cells l.toArray t (0, 0) := (Array.getElem?_eq_some_iff.1 hg).2
  unfold World.setCell
  rw [Array.getElem?_eq_getElem (by simpa using hlt), Array.getElem_modify]
  simp [hv]

set_option maxRecDepth 100000 in
set_option maxHeartbeats 1000000 in
theorem still_some (B : Nat) (p : Option Addr) (cap : Nat) (ss : List ByteArray) (w : World) (hr : Row w p ss) (hB : ∀ b o, ss ≠ [] → p = some ⟨b, o, none⟩ → b ≠ B) (hg : w.heap[B]? = some (.cells (rowOf ss 8).toArray 9 (0, 0))) (hl : 16 * (ss.length + 8) ≤ 281474976710656) :
    Calls Tryz.prog 28 #[.slice (some ⟨B, 0, none⟩) (ss.length + 8) (ss.length + 8), .slice p ss.length cap] w fun e w' => e = .returned (.bool true) ∧ Only B w w' := by
  have HG : Hid _ := hg
  clear hg
  have HB : Hid _ := hB
  clear hB
  go_enter Tryz.func28, Tryz.ntmps28
  go_wp2
  go_loopw [5] (fun i wr => ∃ k : Nat, k ≤ ss.length + 8 ∧ i = .int .i64 k ∧ Only B w wr ∧ wr.heap[B]? = some (.cells (overOf ss k).toArray 9 (0, 0))) (fun i _ => ss.length + 8 - (intOf i).toNat)
  case atStart => exact ⟨0, by omega, rfl, Only.refl _ _, by rw [HG.out]; rfl⟩
  case round =>
    obtain ⟨k, hk, rfl, ho, hh⟩ := hrel
    by_cases hlt : k < ss.length + 8
    · have hcell := cell_row hh k
      rw [overOf_at] at hcell
      have hfr := frozen_row hh k
      have HS : Hid _ := set_row hh k (.string gone)
      have HO : Hid _ := ho
      have HV : Hid _ := overOf_set ss k hlt
      by_cases h1 : k < ss.length
      · rw [rowOf_at ss k h1] at hcell
        rcases (hr.only ho HB.out).cell with h0 | ⟨b, o, rfl, hb, hc⟩
        · rw [h0] at h1; exact absurd h1 (by simp)
        · have hck := hc k h1
          generalize ss[k] = s at *
          clear hh ho hr hc hb
          go_wp2
          go_roundw
          case rel => exact ⟨k + 1, by omega, by go_num, HO.out.setCell _, by rw [← HV.out]; exact HS.out⟩
          case measure => simp [intOf]; omega
      · rw [rowOf_mark ss k h1 hlt] at hcell
        clear hh ho hr
        unfold mark at hcell
        go_wp2
        go_roundw
        case rel => exact ⟨k + 1, by omega, by go_num, HO.out.setCell _, by rw [← HV.out]; exact HS.out⟩
        case measure => simp [intOf]; omega
    · go_wp2
      go_ret
      exact ⟨rfl, ho⟩

end Go.Proofs.YtkhnjipjbhcgdaaGreat
