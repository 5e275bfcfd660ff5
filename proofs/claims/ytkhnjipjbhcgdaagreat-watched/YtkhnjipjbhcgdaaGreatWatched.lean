import Derived.Test.YtkhnjipjbhcgdaaGreatWStep2
import Derived.Test.YtkhnjipjbhcgdaaGreatOpen2
import Derived.Deep.Slices
import Derived.Great.BuildSlice
/-
  HOW A SCRIPT OF STEPS THAT CAME IN IS OPENED.
-/
namespace Go.Proofs.YtkhnjipjbhcgdaaGreat
open Go.ChangeShapes Go.WideShapes Go.ChangeAt Go.RowKit Go.Joins

/-- A script: steps behind an address. -/
structure Ops (W : World) (p : Option Addr) (n : Nat) (f : Nat → OpRec) : Prop where
  len : n ≤ 1172812402960
  ok : ∀ i, i < n → OpOk W (f i)
  cell : n = 0 ∨ ∃ b o, p = some ⟨b, o, none⟩ ∧ b < W.heap.size ∧ ∀ i, i < n → ∀ j, j < 9 → W.cell? ⟨b, o + i * 9 + j, none⟩ = (f i).cells[j]?

def op0 : OpRec := ⟨0, 0, 0, ⟨#[]⟩, none, 0, [], 0, 0, ⟨#[]⟩, none, 0, []⟩
theorem cellsOp : Tryz.prog.cellsOf 39 = 9 := by kernel_rfl
theorem bytesOp : Tryz.prog.bytesOf 39 = 120 := by kernel_rfl
theorem cellsInt' : Tryz.prog.cellsOf 3 = 1 := by kernel_rfl
theorem cellsRow : Tryz.prog.cellsOf 32 = 1 := by kernel_rfl

theorem weights_mem_all {H : Type} {P : Program} {e : TypeId} : ∀ {l : List (DataW H)} {d : DataW H}, d ∈ l → ∀ n ∈ d.weights P e, n ∈ DataW.weightsAll P e l
  | a :: r, d, hd, n, hn => by
    rw [DataW.weightsAll]
    rcases List.mem_cons.1 hd with rfl | h
    · exact List.mem_append_left _ hn
    · exact List.mem_append_right _ (weights_mem_all h n hn)

theorem list9 {α : Type} {l : List α} (h : l.length = 9) : ∃ c0 c1 c2 c3 c4 c5 c6 c7 c8, l = [c0, c1, c2, c3, c4, c5, c6, c7, c8] := by
  match l, h with
  | [c0, c1, c2, c3, c4, c5, c6, c7, c8], _ => exact ⟨c0, c1, c2, c3, c4, c5, c6, c7, c8, rfl⟩
theorem list6 {α : Type} {l : List α} (h : l.length = 6) : ∃ c0 c1 c2 c3 c4 c5, l = [c0, c1, c2, c3, c4, c5] := by
  match l, h with
  | [c0, c1, c2, c3, c4, c5], _ => exact ⟨c0, c1, c2, c3, c4, c5, rfl⟩

/-- A struct of six fields, opened. -/
theorem trod_struct6 {H : Type} {enc : TypeId × Value → H} {P : Program} {w : World} {base : Nat} {spare : Nat → Bool} {held : Bool} {t : TypeId} {f0 f1 f2 f3 f4 f5 : Field} {fuel : Nat} {cs : List Value} {x : DataW H × List MemPlace} (ht : P.underlying t = some (.struct #[f0, f1, f2, f3, f4, f5])) (h : DataW.trod enc P w base spare held fuel t cs = some x) :
    ∃ y0 y1 y2 y3 y4 y5 n, x = (.agg [y0.1, y1.1, y2.1, y3.1, y4.1, y5.1], y0.2 ++ (y1.2 ++ (y2.2 ++ (y3.2 ++ (y4.2 ++ y5.2))))) ∧ cs.length = P.cellsOf t ∧
      DataW.trod enc P w base spare held n f0.type ((cs.drop f0.offset).take (P.cellsOf f0.type)) = some y0 ∧ DataW.trod enc P w base spare held n f1.type ((cs.drop f1.offset).take (P.cellsOf f1.type)) = some y1 ∧
      DataW.trod enc P w base spare held n f2.type ((cs.drop f2.offset).take (P.cellsOf f2.type)) = some y2 ∧ DataW.trod enc P w base spare held n f3.type ((cs.drop f3.offset).take (P.cellsOf f3.type)) = some y3 ∧
      DataW.trod enc P w base spare held n f4.type ((cs.drop f4.offset).take (P.cellsOf f4.type)) = some y4 ∧ DataW.trod enc P w base spare held n f5.type ((cs.drop f5.offset).take (P.cellsOf f5.type)) = some y5 := by
  obtain ⟨xs, n, _, rfl, hl, hlen, hf⟩ := DataW.trod_struct ht h
  obtain ⟨y0, y1, y2, y3, y4, y5, rfl⟩ := list6 hlen
  exact ⟨y0, y1, y2, y3, y4, y5, n, by simp, hl, by simpa using hf 0 f0 rfl, by simpa using hf 1 f1 rfl, by simpa using hf 2 f2 rfl, by simpa using hf 3 f3 rfl, by simpa using hf 4 f4 rfl, by simpa using hf 5 f5 rfl⟩

/-- A row in a cell, within the reach of what it weighs. -/
theorem row_cell_w {H : Type} {enc : TypeId × Value → H} {W : World} {fuel : Nat} {c : Value} {x : DataW H × List MemPlace} (hf : DataW.trod enc Tryz.prog W 0 (fun _ => true) true fuel 32 [c] = some x)
    (hw : ∀ n ∈ x.1.weights Tryz.prog 32, n ≤ reachBytes) : ∃ ss, IsRow W c ss :=
  row_cell hf (fun elems spare he => by
    have := hw ((elems.length + spare.length) * Tryz.prog.bytesOf 9) (by rw [he]; simp only [DataW.weights, Tryz.underlying32]; exact List.mem_cons_self)
    rwa [bytesStr] at this)

set_option maxRecDepth 100000 in
theorem open_op {H : Type} {enc : TypeId × Value → H} {W : World} {fuel : Nat} {cs : List Value} {x : DataW H × List MemPlace}
    (h : DataW.trod enc Tryz.prog W 0 (fun _ => true) true fuel 39 cs = some x)
    (hw : ∀ n ∈ x.1.weights Tryz.prog 39, n ≤ reachBytes) : ∃ o : OpRec, cs = o.cells ∧ OpOk W o := by
  obtain ⟨y0, y1, y2, y3, y4, y5, n, rfl, hl, f0, f1, f2, f3, f4, f5⟩ := trod_struct6 Tryz.underlying39 h
  obtain ⟨c0, c1, c2, c3, c4, c5, c6, c7, c8, rfl⟩ := list9 (hl.trans cellsOp)
  simp only [cellsInt', cellsStr, cellsRow, cellsAnswer, List.drop_zero, List.drop_succ_cons, List.take_succ_cons, List.take_zero] at f0 f1 f2 f3 f4 f5
  have hw4 : ∀ m ∈ y4.1.weights Tryz.prog 32, m ≤ reachBytes := fun m hm => hw m (by
    simp only [DataW.weights, Tryz.underlying39]
    exact DataW.weights_mem_each (j := 4) rfl rfl _ hm)
  have hw5 : ∀ m ∈ y5.1.weights Tryz.prog 37, m ≤ reachBytes := fun m hm => hw m (by
    simp only [DataW.weights, Tryz.underlying39]
    exact DataW.weights_mem_each (j := 5) rfl rfl _ hm)
  clear hw h
  obtain ⟨kind, e0, _, _⟩ := DataW.trod_int Tryz.underlying3 f0
  obtain ⟨wat, e1, _, ww⟩ := DataW.trod_int Tryz.underlying3 f1
  obtain ⟨N, e2, _, _⟩ := DataW.trod_int Tryz.underlying3 f2
  obtain ⟨b, e3, _, _⟩ := DataW.trod_string Tryz.underlying9 f3
  obtain ⟨ts, hts⟩ := row_cell_w f4 hw4
  obtain ⟨z0, z1, z2, z3, m, hx5, _, g0, g1, g2, g3⟩ := trod_struct4 Tryz.underlying37 f5
  simp only [cellsInt', cellsStr, cellsRow, List.drop_zero, List.drop_succ_cons, List.take_succ_cons, List.take_zero] at g0 g1 g2 g3
  obtain ⟨a1, e5, _, _⟩ := DataW.trod_int Tryz.underlying3 g0
  obtain ⟨a2, e6, _, _⟩ := DataW.trod_int Tryz.underlying3 g1
  obtain ⟨al, e7, _, wl⟩ := DataW.trod_string Tryz.underlying9 g2
  obtain ⟨qs, hqs⟩ := row_cell_w g3 (fun k hk => hw5 k (by
    rw [hx5]
    simp only [DataW.weights, Tryz.underlying37]
    exact DataW.weights_mem_each (j := 3) rfl rfl _ hk))
  simp only [List.cons.injEq, and_true] at e0 e1 e2 e3 e5 e6 e7
  subst e0 e1 e2 e3 e5 e6 e7
  obtain ⟨pt, ct, rfl, hr1, hi1⟩ := hts.inc
  obtain ⟨pa, ca, rfl, hr2, hi2⟩ := hqs.inc
  exact ⟨⟨kind, wat, N, b, pt, ct, ts, a1, a2, al, pa, ca, qs⟩, rfl, fits_of ww, hr1, hi1, wl, hr2, hi2⟩

set_option maxRecDepth 100000 in
theorem open_ops {H : Type} {enc : TypeId × Value → H} {W : World} {base : Nat} {v : Value} {d : DataW H} {ps : List MemPlace}
    (hv : Value.okWide Tryz.prog W .any base 22 v) (h : DataW.Trod enc Tryz.prog W 0 (fun _ => true) true 22 v d ps)
    (hw : ∀ n ∈ d.weights Tryz.prog 22, n ≤ reachBytes) : ∃ p n cap f, v = .slice p n cap ∧ Ops W p n f := by
  obtain ⟨a0, len, cap, rfl⟩ := okWide_slice Tryz.underlying22 hv
  obtain ⟨fuel, hf⟩ := h
  rcases Go.Deep.open_slice Tryz.underlying22 hf with ⟨hcs, hx⟩ | ⟨a, len', cap', m, n, D, Pl, hcs, _, hl, hm, hmm, hx, hel⟩
  · simp [Value.cells] at hcs
    obtain ⟨rfl, rfl, rfl⟩ := hcs
    exact ⟨none, 0, 0, fun _ => op0, rfl, by omega, fun i hi => absurd hi (Nat.not_lt_zero _), Or.inl rfl⟩
  · simp [Value.cells] at hcs
    obtain ⟨rfl, rfl, rfl⟩ := hcs
    simp only [if_true] at hmm
    subst hmm
    simp only [Prod.mk.injEq] at hx
    obtain ⟨rfl, _⟩ := hx
    simp only [DataW.weights, Tryz.underlying22] at hw
    rw [cellsOp] at hel
    have hn := hw _ List.mem_cons_self
    rw [bytesOp] at hn
    simp only [List.length_map, List.length_range, reachBytes] at hn
    have each : ∀ i, i < len → ∃ o : OpRec, W.cells? 0 (a.add (i * 9)) 9 = some o.cells ∧ OpOk W o := fun i hi => by
      obtain ⟨cs', h1, h2⟩ := hel i (by omega)
      obtain ⟨o, rfl, ho⟩ := open_op h2 (fun k hk => hw k (List.mem_cons_of_mem _ (List.mem_append_left _ (weights_mem_all (List.mem_map.2 ⟨i, List.mem_range.2 hi, rfl⟩) k hk))))
      exact ⟨o, h1, ho⟩
    haveI : Inhabited OpRec := ⟨op0⟩
    obtain ⟨f, hfn⟩ := Go.Deep.choose_lt each
    refine ⟨some a, len, m, f, rfl, by omega, fun i hi => (hfn i hi).2, ?_⟩
    by_cases h0 : len = 0
    · exact Or.inl h0
    right
    have hcell : ∀ i, i < len → ∀ j, j < 9 → W.cell? (a.add (i * 9 + j)) = (f i).cells[j]? := fun i hi j hj => by
      have := (World.cells?_some (hfn i hi).1).2.2 j hj
      rwa [Go.Deep.add_add] at this
    obtain ⟨b, off, spot⟩ := a
    have hspot : spot = none := by
      have := hcell 0 (by omega) 0 (by omega)
      simpa [Addr.add] using World.cell?_spot (v := .int .i64 (f 0).kind) this
    subst hspot
    have hc : ∀ i, i < len → ∀ j, j < 9 → W.cell? ⟨b, off + i * 9 + j, none⟩ = (f i).cells[j]? := fun i hi j hj => by
      have := hcell i hi j hj
      rwa [show (⟨b, off, none⟩ : Addr).add (i * 9 + j) = ⟨b, off + i * 9 + j, none⟩ by unfold Addr.add; split <;> simp_all [Nat.add_assoc]] at this
    refine ⟨b, off, rfl, ?_, hc⟩
    have := hc 0 (by omega) 0 (by omega)
    rcases Nat.lt_or_ge b W.heap.size with hlt | hge
    · exact hlt
    · rw [World.cell?, Array.getElem?_eq_none (by simpa using hge)] at this
      cases this
end Go.Proofs.YtkhnjipjbhcgdaaGreat

/-
  THE WALK of treeheadlaw.Watched.
-/
namespace Go.Proofs.YtkhnjipjbhcgdaaGreat
open Go.RowKit Hp

set_option maxRecDepth 100000 in
set_option maxHeartbeats 400000 in
theorem signedw_any (size : Int) (root : ByteArray) (w : World) (hrs : root.size ≤ maxLen) :
    Calls Tryz.prog 8 #[.int .i64 size, .string root] w fun e w' => e = .returned (.string (signS 2 3 size root)) ∧ Below w.heap.size w w' := by
  have h := fun w => rsign_any 2 3 size root w hrs
  change ∀ w, Calls Tryz.prog 19 #[.int .i64 2, .int .i64 3, .agg #[.int .i64 size, .string root]] w fun e w' => e = .returned (.tuple #[.string (signS 2 3 size root), .int .i64 (signE 2 3 size root)]) ∧ Below w.heap.size w w' at h
  generalize signS 2 3 size root = S at *
  generalize signE 2 3 size root = x at *
  go_enter Tryz.func8, Tryz.ntmps8
  go_wp2_with fail
  refine (h _).mono ?_
  rintro e w1 ⟨rfl, hb⟩
  go_wp2_with fail
  go_ret
  exact ⟨rfl, hb⟩
theorem nobody_ok (W : World) (s : ByteArray) : OpOk W ⟨2, 0, 0, s, none, 0, [], 0, 0, ⟨#[]⟩, none, 0, []⟩ := ⟨(show Fits 0 by unfold Fits; omega), row_nil W, Or.inl ⟨rfl, rfl, rfl⟩, (show (⟨#[]⟩ : ByteArray).size ≤ maxLen by decide), row_nil W, Or.inl ⟨rfl, rfl, rfl⟩⟩
theorem St.new (W : World) : St (W.alloc (.cells #[.slice none 0 0, .slice none 0 0, .slice none 0 0] 27)) W.heap.size W.heap.size 0 0 (3 * 0) (fun _ => ⟨0, 0, 0, 0, none, 0, 0, ⟨#[]⟩, false, false⟩) (.slice none 0 0) (.slice none 0 0) (.slice none 0 0) (fun _ => .slice none 0 0) (fun _ => .slice none 0 0) :=
  ⟨Nat.le_refl _, Box.new W _ _, World.ownsRow_nil _ _ _ _, World.ownsRow_nil _ _ _ _, World.ownsRow_nil _ _ _ _, fun k hk => (by cases hk), fun i hi => absurd hi (Nat.not_lt_zero _), fun i _ hi => absurd hi (Nat.not_lt_zero _), fun k hk => absurd hk (Nat.not_lt_zero _), fun k hk => absurd hk (Nat.not_lt_zero _)⟩
theorem step_first (W w : World) (W0 : Nat) (s : ByteArray) (h : Sx W w W0 2 0) :
    Calls Tryz.prog 7 #[.pointer (some ⟨W0, 0, none⟩), .agg #[.int .i64 2, .int .i64 0, .int .i64 0, .string s, .slice none 0 0, .int .i64 0, .int .i64 0, .string ⟨#[]⟩, .slice none 0 0]] w fun e w' => e = .returned (.bool true) ∧ Sx W w' W0 (3 + 0) (1 + 0) := by
  have := step_any W w W0 2 0 h (by omega) (by omega) ⟨2, 0, 0, s, none, 0, [], 0, 0, ⟨#[]⟩, none, 0, []⟩ (nobody_ok W s)
  simp only [OpRec.cells, List.length_nil] at this
  exact this
theorem step_cells (W w : World) (W0 k : Nat) (h : Sx W w W0 (3 + k) (1 + k)) (hk : k < 1172812402960) (kind wat N : Int) (b : ByteArray) (pt : Option Addr) (ct : Nat) (ts : List ByteArray) (a1 a2 : Int) (al : ByteArray) (pa : Option Addr) (ca : Nat) (qs : List ByteArray)
    (ho : OpOk W ⟨kind, wat, N, b, pt, ct, ts, a1, a2, al, pa, ca, qs⟩) :
    Calls Tryz.prog 7 #[.pointer (some ⟨W0, 0, none⟩), .agg #[.int .i64 kind, .int .i64 wat, .int .i64 N, .string b, .slice pt ts.length ct, .int .i64 a1, .int .i64 a2, .string al, .slice pa qs.length ca]] w fun e w' => e = .returned (.bool true) ∧ Sx W w' W0 (3 + (k + 1)) (1 + (k + 1)) := by
  have := step_any W w W0 (3 + k) (1 + k) h (by omega) (by omega) _ ho
  simp only [OpRec.cells] at this
  exact this
theorem looks_all (W w : World) (W0 N M : Nat) (h : Sx W w W0 N M) (hM : M ≤ 2000000000000) :
    Calls Tryz.prog 9 #[.pointer (some ⟨W0, 0, none⟩)] w fun e w' => e = .returned (.bool true) ∧ w' = w := by
  obtain ⟨n, m, P, v1, v2, v3, L1, L3, h1, h2, h3, hS, hB⟩ := h
  exact looks_any w _ W0 n m P v1 v2 v3 L1 L3 hS (by omega)

set_option maxRecDepth 100000 in
set_option maxHeartbeats 8000000 in
theorem watched_core (W : World) (p : Option Addr) (cap n : Nat) (f : Nat → OpRec) (h : Ops W p n f) :
    Calls Tryz.prog 3 #[.slice p n cap] W fun e w' => e = .returned (.bool true) ∧ Below W.heap.size W w' := by
  have HO : Hid (Ops W p n f) := h
  have hn := h.len
  clear h
  have HS0 : Hid _ := St.new W
  have HB0 : Hid (Below W.heap.size W (W.alloc (.cells #[.slice none 0 0, .slice none 0 0, .slice none 0 0] 27))) := (Below.refl _ _).alloc (Nat.le_refl _) _
  have HW1 : Hid _ := watch_yes 16 _ _ _ 0 0 (3 * 0) _ _ _ _ _ _ HS0.out (by decide +kernel) HB0.out.size (by omega)
  have HT : Hid _ := three_any
  have HR1 : Hid (∀ w, Calls Tryz.prog 5 #[.slice (some ⟨w.heap.size, 0, none⟩) abc.length 3] (w.alloc (.cells (abc.map Value.string).toArray 9)) fun e w' => e = .returned (.tuple #[.string (Pl.root abc), .int .i64 0]) ∧ Below w.heap.size w w') := fun w => by
    have := rtroot_any (some ⟨w.heap.size, 0, none⟩) 3 abc (w.alloc (.cells (abc.map Value.string).toArray 9)) (by decide) (by omega) (Row.lit w abc (by decide) abc_sizes)
    rw [rootAns_yes abc_ok] at this
    exact this.mono fun e w' ⟨he, hb⟩ => ⟨he, ((Below.refl _ w).alloc (Nat.le_refl _) _).trans (hb.mono (by simp))⟩
  have HSg : Hid _ := fun w => signedw_any 3 (Pl.root abc) w (root_le _)
  generalize Pl.root abc = RR at *
  generalize signS 2 3 3 RR = SS at *
  go_enter Tryz.func3, Tryz.ntmps3
  go_upto_region 2 with fail
  generalize W.alloc (.cells #[.slice none 0 0, .slice none 0 0, .slice none 0 0] 27) = w0 at *
  obtain ⟨W0, hW0⟩ : ∃ W0, W.heap.size = W0 := ⟨_, rfl⟩
  have HWW : Hid _ := hW0
  rw [hW0] at HW1 ⊢
  clear hW0
  go_wp2_with fail
  refine Calls.mono HW1.out ?_
  rintro e w1 ⟨rfl, v1, P1, hS1, hB1⟩
  have HW2 : Hid _ := watch_yes 64 _ _ _ _ 0 (3 * 0) _ _ _ _ _ _ hS1 (by decide +kernel) (by rw [← HWW.out]; exact Nat.le_trans HB0.out.size (by have := hB1.size; omega)) (by omega)
  clear hS1 HW1
  go_wp2_with fail
  refine Calls.mono HW2.out ?_
  rintro e w2 ⟨rfl, v2, P2, hS2, hB2⟩
  have hS2' : St w2 W0 W0 2 0 (3 * 0) P2 v2 (.slice none 0 0) (.slice none 0 0) (fun _ => .slice none 0 0) (fun _ => .slice none 0 0) := hS2
  obtain ⟨p1, k1, rfl⟩ := own_slice hS2'.ps
  have hBW : Below W.heap.size W w2 := by
    rw [HWW.out] at HB0 ⊢
    exact (HB0.out.trans hB1).trans hB2
  have hS2w : St w2 W.heap.size W0 2 0 (3 * 0) P2 (.slice p1 2 k1) (.slice none 0 0) (.slice none 0 0) (fun _ => .slice none 0 0) (fun _ => .slice none 0 0) := by
    rw [HWW.out]
    exact hS2'
  have HSx : Hid (Sx W w2 W0 2 0) := ⟨2, 0, P2, _, _, _, _, _, by omega, by omega, by omega, hS2w, hBW⟩
  have c0 := hS2'.box.cell 0
  clear hS2 hS2' hS2w hBW hB1 hB2 HW2 HB0 HS0
  go_wp2_with fail
  refine (HT.out _).mono ?_
  rintro e w3 ⟨rfl, rfl⟩
  clear c0
  go_wp2_with fail
  refine (HR1.out _).mono ?_
  rintro e w4 ⟨rfl, hb4⟩
  have HSx4 : Hid (Sx W w4 W0 2 0) := Sx.grow HSx.out hb4
  clear hb4 HSx HR1 HT
  go_wp2_with fail
  refine (HSg.out _).mono ?_
  rintro e w5 ⟨rfl, hb5⟩
  have HSx5 : Hid (Sx W w5 W0 2 0) := Sx.grow HSx4.out hb5
  have HSt : Hid _ := step_first W w5 W0 SS HSx5.out
  clear hb5 HSx4 HSx5 HSg
  go_wp2_with fail
  refine Calls.mono HSt.out ?_
  rintro e w6 ⟨rfl, hs6⟩
  have HSx6 : Hid (Sx W w6 W0 (3 + 0) (1 + 0)) := hs6
  clear hs6 HSt
  go_wp2_with fail
  go_loopw [8, 9] (fun ok i wr => ∃ k : Nat, k ≤ n ∧ ok = .bool true ∧ i = .int .i64 k ∧ Hid (Sx W wr W0 (3 + k) (1 + k))) (fun _ i _ => n - (intOf i).toNat)
  case atStart => exact ⟨0, by omega, rfl, rfl, HSx6⟩
  case round =>
    obtain ⟨k, hk, rfl, rfl, HX⟩ := hrel
    by_cases hlt : k < n
    · rcases HO.out.cell with h0 | ⟨b, o, rfl, hb, hc⟩
      · omega
      have hcw : ∀ j, j < 9 → wr.cell? ⟨b, o + k * 9 + j, none⟩ = (f k).cells[j]? := fun j hj => by
        rw [(Sx.below HX.out).cell (p := ⟨b, o + k * 9 + j, none⟩) hb]
        exact hc k hlt j hj
      have hok := HO.out.ok k hlt
      generalize f k = op at *
      obtain ⟨kind, wat, N, bb, pt, ct, ts, a1, a2, al, pa, ca, qs⟩ := op
      have HSt : Hid _ := step_cells W wr W0 k HX.out (by omega) _ _ _ _ _ _ _ _ _ _ _ _ _ hok
      clear hok
      have d0 := hcw 0 (by omega)
      have d1 := hcw 1 (by omega)
      have d2 := hcw 2 (by omega)
      have d3 := hcw 3 (by omega)
      have d4 := hcw 4 (by omega)
      have d5 := hcw 5 (by omega)
      have d6 := hcw 6 (by omega)
      have d7 := hcw 7 (by omega)
      have d8 := hcw 8 (by omega)
      simp only [OpRec.cells, List.getElem?_cons_zero, List.getElem?_cons_succ, Nat.add_zero] at d0 d1 d2 d3 d4 d5 d6 d7 d8
      clear hcw hc hb
      have hkn : (k : Int) < (n : Int) := by omega
      go_wp2_with fail
      refine Calls.mono HSt.out ?_
      rintro e w7 ⟨rfl, hs7⟩
      have HX7 : Hid (Sx W w7 W0 (3 + (k + 1)) (1 + (k + 1))) := hs7
      have HL : Hid _ := looks_all W w7 W0 _ _ hs7 (by omega)
      clear hs7 HSt HX d0 d1 d2 d3 d4 d5 d6 d7 d8
      go_wp2_with fail
      refine Calls.mono HL.out ?_
      rintro e w8 ⟨rfl, rfl⟩
      clear HL
      go_wp2_with fail
      go_roundw
      case rel => exact ⟨k + 1, by omega, rfl, by go_num, HX7⟩
      case measure => simp [intOf]; omega
    · go_wp2_with fail
      go_ret
      exact ⟨rfl, Sx.below HX.out⟩
theorem watched_walk (v : Value) (p : Option Addr) (n cap : Nat) (f : Nat → OpRec) (W : World) (h : v = .slice p n cap ∧ Ops W p n f) :
    Calls Tryz.prog 3 #[v] W fun e w' => e = .returned (.bool true) ∧ Below W.heap.size W w' := by
  obtain ⟨rfl, h⟩ := h
  exact watched_core W p cap n f h
end Go.Proofs.YtkhnjipjbhcgdaaGreat
