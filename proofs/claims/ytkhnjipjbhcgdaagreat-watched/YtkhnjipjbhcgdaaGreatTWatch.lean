import Derived.Test.YtkhnjipjbhcgdaaGreatTAll
import Derived.Test.YtkhnjipjbhcgdaaGreatAnsW
import Derived.Conc.LoneCalls
import Derived.Conc.LoneSelect
import Derived.Conc.LoneSelectN
/-
  THE WALKS of the program's watcher: isClosed (a select with a default over a channel that is open or closed), Close, Head, Watch.
-/
namespace Go.Proofs.YtkhnjipjbhcgdaaGreat
open Go.Conc Go.RowKit

/-- A watcher's channel: nothing is ever sent on it. -/
def Chan0 (w : World) (C : Nat) (closed : Bool) : Prop := w.heap[C]? = some (.chan 0 #[] closed 0 0 false)
theorem Chan0.grow {w w' : World} {C n : Nat} {closed : Bool} (h : Chan0 w C closed) (hb : Below n w w') (hC : C < n) : Chan0 w' C closed := by
  unfold Chan0
  rw [hb.block C hC]
  exact h
theorem Chan0.lt {w : World} {C : Nat} {closed : Bool} (h : Chan0 w C closed) : C < w.heap.size := (Array.getElem?_eq_some_iff.1 h).1
theorem sel_default (c : Nat) (z : Value) : commResult #[rcase c z] .select (-1) undef false = .tuple #[goInt (-1), .bool false, z] := by
  simp [commResult, rcase]
theorem sel_shut (c : Nat) (z : Value) : commResult #[rcase c z] .select ((0 : Nat) : Int) z false = .tuple #[goInt 0, .bool false, z] := by
  simp [commResult, rcase]

set_option maxRecDepth 100000 in
set_option maxHeartbeats 4000000 in
theorem tisclosed_no (F C : Nat) (key : Int) (sp : Option Addr) (w : World) (hF : Box w F 65 [.int .i64 key, .pointer sp, .chan (some C)]) (hC : Chan0 w C false) :
    Calls Tryz.prog 51 #[.pointer (some ⟨F, 0, none⟩)] w fun e w' => e = .returned (.bool false) ∧ w' = w := by
  have c2 := hF.cell 2
  refine calls_of_loneTo fun cs => ?_
  have e : Frame.enter Tryz.prog 51 #[.pointer (some ⟨F, 0, none⟩)] .normal = (base 51).at ⟨#[.pointer (some ⟨F, 0, none⟩), undef, undef, undef, undef, undef, undef, undef, undef, undef], []⟩ [.code (Tryz.f51.body.getD .skip)] := by
    simp [Frame.enter, Frame.at, Tryz.func51, base, Tryz.f51]
  rw [e]
  refine LoneTo.goes (n := 13) ?_
  simp only [Tryz.f51, Option.getD_some]
  s_c stepG_seq
  s_reg
  s_op
  s_c stepG_region_end
  s_c stepG_seq
  s_reg
  s_op
  s_op
  s_op
  s_op
  s_c stepG_region_end
  s_c stepG_seq
  s_reg
  s_stop
  refine LoneTo.step (step_lone_select_default (c := C) (z := .agg #[]) (cap := 0) (s := 0) (r := 0) (tm := false) (stepG_comm (cases := #[rcase C (.agg #[])]) (blocking := false) (shape := .select) (w' := w) rfl rfl (by decide) (by simp [go_sem, execOp, rcase, Act.eval])) hC) ?_
  rw [Frame.finish_at]
  walk_nrm
  refine LoneTo.goes (n := 10) ?_
  s_op
  s_op
  s_c stepG_region_end
  s_c stepG_block
  s_cond false
  s_c stepG_seq
  s_reg
  s_op
  s_c stepG_region_end
  s_c stepG_ret'
  s_stop
  exact LoneTo.done ⟨.returned (.bool false), _, rfl, ⟨rfl, rfl⟩, rfl, rfl, rfl, rfl, _, Tryz.func51, by simp [results, Tryz.f51, Frame.at]⟩

set_option maxRecDepth 100000 in
set_option maxHeartbeats 4000000 in
theorem tisclosed_yes (F C : Nat) (key : Int) (sp : Option Addr) (w : World) (hF : Box w F 65 [.int .i64 key, .pointer sp, .chan (some C)]) (hC : Chan0 w C true) :
    Calls Tryz.prog 51 #[.pointer (some ⟨F, 0, none⟩)] w fun e w' => e = .returned (.bool true) ∧ w' = w := by
  have c2 := hF.cell 2
  refine calls_of_loneTo fun cs => ?_
  have e : Frame.enter Tryz.prog 51 #[.pointer (some ⟨F, 0, none⟩)] .normal = (base 51).at ⟨#[.pointer (some ⟨F, 0, none⟩), undef, undef, undef, undef, undef, undef, undef, undef, undef], []⟩ [.code (Tryz.f51.body.getD .skip)] := by
    simp [Frame.enter, Frame.at, Tryz.func51, base, Tryz.f51]
  rw [e]
  refine LoneTo.goes (n := 13) ?_
  simp only [Tryz.f51, Option.getD_some]
  s_c stepG_seq
  s_reg
  s_op
  s_c stepG_region_end
  s_c stepG_seq
  s_reg
  s_op
  s_op
  s_op
  s_op
  s_c stepG_region_end
  s_c stepG_seq
  s_reg
  s_stop
  refine LoneTo.step (step_lone_select_recv_shut (c := C) (z := .agg #[]) (cap := 0) (s := 0) (r := 0) (tm := false) (stepG_comm (cases := #[rcase C (.agg #[])]) (blocking := false) (shape := .select) (w' := w) rfl rfl (by decide) (by simp [go_sem, execOp, rcase, Act.eval])) hC) ?_
  rw [Frame.finish_at]
  walk_nrm
  refine LoneTo.goes (n := 10) ?_
  s_op
  s_op
  s_c stepG_region_end
  s_c stepG_block
  s_cond true
  s_c stepG_seq
  s_reg
  s_op
  s_c stepG_region_end
  s_c stepG_ret'
  s_stop
  exact LoneTo.done ⟨.returned (.bool true), _, rfl, ⟨rfl, rfl⟩, rfl, rfl, rfl, rfl, _, Tryz.func51, by simp [results, Tryz.f51, Frame.at]⟩

/-- A watcher of the program's: its box, its channel, what it has seen. -/
structure Wt (w : World) (F C : Nat) (sp : Option Addr) (key : Int) (size : Nat) (root : ByteArray) (seen closed : Bool) : Prop where
  box : Box w F 65 [.int .i64 key, .pointer sp, .chan (some C)]
  chan : Chan0 w C closed
  head : (seen = false ∧ sp = none) ∨ (seen = true ∧ ∃ S, sp = some ⟨S, 0, none⟩ ∧ Box w S 59 [.int .i64 size, .string root])
theorem Chan0.turn {X : Nat → Prop} {w w' : World} {C : Nat} {closed : Bool} (h : Chan0 w C closed) (hb : Turn X w w') (hX : ¬ X C) : Chan0 w' C closed := by
  unfold Chan0
  rw [hb.block C h.lt hX]
  exact h
theorem Wt.turn {X : Nat → Prop} {w w' : World} {F C : Nat} {sp : Option Addr} {key : Int} {size : Nat} {root : ByteArray} {seen closed : Bool} (h : Wt w F C sp key size root seen closed) (hb : Turn X w w') (hF : ¬ X F) (hC : ¬ X C) (hS : ∀ S, sp = some ⟨S, 0, none⟩ → ¬ X S) : Wt w' F C sp key size root seen closed := by
  refine ⟨h.box.turn hb hF, h.chan.turn hb hC, ?_⟩
  rcases h.head with h1 | ⟨h1, S, h2, h3⟩
  · exact Or.inl h1
  · exact Or.inr ⟨h1, S, h2, h3.turn hb (hS S h2)⟩
theorem Wt.grow {w w' : World} {F C : Nat} {sp : Option Addr} {key : Int} {size : Nat} {root : ByteArray} {seen closed : Bool} (h : Wt w F C sp key size root seen closed) (hb : Below w.heap.size w w') : Wt w' F C sp key size root seen closed :=
  h.turn (X := fun _ => False) (Turn.of hb) (fun h => h) (fun h => h) (fun _ _ h => h)
theorem tisclosed_any (F C : Nat) (sp : Option Addr) (key : Int) (size : Nat) (root : ByteArray) (seen closed : Bool) (w : World) (h : Wt w F C sp key size root seen closed) :
    Calls Tryz.prog 51 #[.pointer (some ⟨F, 0, none⟩)] w fun e w' => e = .returned (.bool closed) ∧ w' = w := by
  cases closed with
  | false => exact tisclosed_no F C key sp w h.box h.chan
  | true => exact tisclosed_yes F C key sp w h.box h.chan

theorem infoUnit : ∃ i, Tryz.prog.info? 89 = some i ∧ i.bytes = 0 := by
  have h : (Tryz.prog.info? 89).map (·.bytes) = some 0 := by kernel_rfl
  obtain ⟨i, hi, hb⟩ := Option.map_eq_some_iff.1 h
  exact ⟨i, hi, hb⟩
theorem mk_chan (w : World) : (Instr.makeChan 62 (.int .i64 0)).run Tryz.prog w = .ok (.chan (some w.heap.size)) (w.alloc (.chan 0 #[] false 0 0 false)) := by
  obtain ⟨i, hi, hb⟩ := infoUnit
  simpa using run_makeChan (P := Tryz.prog) (w := w) Tryz.underlying62 hi .i64 0 (by omega) (by rw [hb]; omega)

set_option maxRecDepth 100000 in
set_option maxHeartbeats 1000000 in
theorem twatch_no (key : Int) (w : World) (h : Pl.keyB key = false) :
    Calls Tryz.prog 10 #[.int .i64 key] w fun e w' => e = .returned (.tuple #[.pointer none, .int .i64 2]) ∧ w' = w := by
  have hik := fun w => tiskey_any key w
  rw [h] at hik
  go_enter Tryz.func10, Tryz.ntmps10
  go_wp2_with fail
  refine (hik _).mono ?_
  rintro e w1 ⟨rfl, rfl⟩
  go_wp2_with fail
  go_ret2
  exact ⟨rfl, rfl⟩

set_option maxRecDepth 100000 in
set_option maxHeartbeats 1000000 in
theorem twatch_yes (key : Int) (w : World) (h : Pl.keyB key = true) :
    Calls Tryz.prog 10 #[.int .i64 key] w fun e w' => e = .returned (.tuple #[.pointer (some ⟨w.heap.size + 1, 0, none⟩), .int .i64 0]) ∧ Wt w' (w.heap.size + 1) w.heap.size none key 0 ⟨#[]⟩ false false ∧ Below w.heap.size w w' := by
  have hik := fun w => tiskey_any key w
  rw [h] at hik
  have hmc := mk_chan
  go_enter Tryz.func10, Tryz.ntmps10
  go_wp2_with fail
  refine (hik _).mono ?_
  rintro e w1 ⟨rfl, rfl⟩
  go_wp2_with fail
  go_ret2
  refine ⟨rfl, ⟨Box.new2 w1 _ 65 [.int .i64 key, .pointer none, .chan (some w1.heap.size)], ?_, Or.inl ⟨rfl, rfl⟩⟩, ((Below.refl _ _).alloc (Nat.le_refl _) _).alloc (by simp) _⟩
  exact Chan0.grow (w := w1.alloc (.chan 0 #[] false 0 0 false)) (heap_alloc_new w1 _) ((Below.refl _ _).alloc (Nat.le_refl _) _) (by simp)

set_option maxRecDepth 100000 in
set_option maxHeartbeats 1000000 in
theorem tclose_any (F C : Nat) (sp : Option Addr) (key : Int) (size : Nat) (root : ByteArray) (seen closed : Bool) (w : World) (h : Wt w F C sp key size root seen closed) (hFC : F ≠ C) (hSC : ∀ S, sp = some ⟨S, 0, none⟩ → S ≠ C) :
    Calls Tryz.prog 39 #[.pointer (some ⟨F, 0, none⟩)] w fun e w' => e = .returned (.tuple #[]) ∧ Wt w' F C sp key size root seen true ∧ Turn (fun k => k = C) w w' := by
  have HI : Hid _ := tisclosed_any F C sp key size root seen closed w h
  cases closed with
  | true =>
    go_enter Tryz.func39, Tryz.ntmps39
    go_wp2_with fail
    refine Calls.mono HI.out ?_
    rintro e w1 ⟨rfl, rfl⟩
    go_wp2_with fail
    go_end0
    exact ⟨rfl, h, Turn.refl _ _⟩
  | false =>
    have c2 := h.box.cell 2
    have hcl := fun ats ty => run_close_open (P := Tryz.prog) (w := w) ats ty h.chan
    go_enter Tryz.func39, Tryz.ntmps39
    go_wp2_with fail
    refine Calls.mono HI.out ?_
    rintro e w1 ⟨rfl, rfl⟩
    go_wp2_with fail
    go_end0
    have hT : Turn (fun k => k = C) w1 (w1.setChan C 0 #[] true 0 0 false) := ⟨rfl, rfl, rfl, by rw [size_setChan]; exact Nat.le_refl _, fun k hk hX => by
      simp only [World.setChan]
      rw [Array.getElem?_setIfInBounds_ne (fun h => hX h.symm)]⟩
    have hch : Chan0 (w1.setChan C 0 #[] true 0 0 false) C true := heap_setChan w1 C 0 #[] true 0 0 false h.chan.lt
    refine ⟨rfl, ⟨h.box.turn hT hFC, hch, ?_⟩, hT⟩
    rcases h.head with h1 | ⟨h1, S, h2, h3⟩
    · exact Or.inl h1
    · exact Or.inr ⟨h1, S, h2, h3.turn hT (hSC S h2)⟩

set_option maxRecDepth 100000 in
set_option maxHeartbeats 1000000 in
theorem thead_any (F C : Nat) (sp : Option Addr) (key : Int) (size : Nat) (root : ByteArray) (seen closed : Bool) (w : World) (h : Wt w F C sp key size root seen closed) :
    Calls Tryz.prog 37 #[.pointer (some ⟨F, 0, none⟩)] w fun e w' => e = .returned (.tuple #[.agg #[.int .i64 (if seen = true then (size : Int) else 0), .string (if seen = true then root else ⟨#[]⟩)], .int .i64 (if seen = true then 0 else 7)]) ∧ Below w.heap.size w w' := by
  have hx := h.box.alloc (.cells #[.int .i64 0, .string ⟨#[]⟩] 59)
  have hlt := h.box.lt
  have q1 := hx.cell 1
  have hne : ¬ F = w.heap.size := by omega
  rcases h.head with ⟨rfl, rfl⟩ | ⟨rfl, S, rfl, hS⟩
  · clear h hx
    go_enter Tryz.func37, Tryz.ntmps37
    go_wp2_with fail
    refine bodyPost_ret (v := .tuple #[.agg #[.int .i64 0, .string ⟨#[]⟩], .int .i64 7]) (by simp [results, Tryz.results37, go_sem]) rfl ⟨rfl, ?_⟩
    exact (Below.refl _ _).alloc (Nat.le_refl _) _
  · have hs := hS.alloc (.cells #[.int .i64 0, .string ⟨#[]⟩] 59)
    have s0 := hs.cell 0
    have s1 := hs.cell 1
    have sl := hS.lt
    clear h hx
    go_enter Tryz.func37, Tryz.ntmps37
    go_wp2_with fail
    refine bodyPost_ret (v := .tuple #[.agg #[.int .i64 size, .string root], .int .i64 0]) (by simp [results, Tryz.results37, go_sem]) rfl ⟨rfl, ?_⟩
    exact (Below.refl _ _).alloc (Nat.le_refl _) _
end Go.Proofs.YtkhnjipjbhcgdaaGreat
