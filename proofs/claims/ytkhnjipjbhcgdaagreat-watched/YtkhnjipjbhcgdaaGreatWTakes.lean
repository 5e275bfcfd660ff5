import Derived.Test.YtkhnjipjbhcgdaaGreatWApp
/-
  THE WALK of (*treeheadlaw.World).takes.
-/
namespace Go.Proofs.YtkhnjipjbhcgdaaGreat
open Go.RowKit Hp

theorem ownCells {w : World} {B g n cap : Nat} {ss : List ByteArray} (h : Own w B (.slice (some ⟨g, 0, none⟩) n cap) ss) (i : Nat) (hi : i < ss.length) : w.cell? ⟨g, i, none⟩ = some (.string ss[i]) ∧ w.frozen? ⟨g, i, none⟩ = false := by
  have h1 := World.ownsRow.cells h (g := g) rfl i (.string ss[i]) (by simp [hi])
  rw [add_plain, Nat.zero_add] at h1
  refine ⟨h1, ?_⟩
  rcases h.2 with ⟨h0, _⟩ | ⟨g', cap', cur, h0, _, hg, _⟩
  · cases h0
  · simp only [Value.slice.injEq, Option.some.injEq, Addr.mk.injEq, and_true] at h0
    obtain ⟨rfl, _⟩ := h0
    simp [World.frozen?, hg]
theorem ownSet {w : World} {B g n cap : Nat} {ss : List ByteArray} (h : Own w B (.slice (some ⟨g, 0, none⟩) n cap) ss) (i : Nat) (x : ByteArray) : Own (w.setCell ⟨g, i, none⟩ (.string x)) B (.slice (some ⟨g, 0, none⟩) n cap) (ss.set i x) := by
  refine ⟨by simp, ?_⟩
  rcases h.2 with ⟨h0, _⟩ | ⟨g', cap', cur, h0, hb, hg, hc, hm, hz, ht⟩
  · cases h0
  · simp only [Value.slice.injEq, Option.some.injEq, Addr.mk.injEq, and_true] at h0
    obtain ⟨rfl, rfl, rfl⟩ := h0
    refine Or.inr ⟨g, cap, cur.setIfInBounds i (.string x), by rw [List.length_set], hb, ?_, by rw [List.length_set]; exact hc, hm, by simpa using hz, ?_⟩
    · have hlt : g < w.heap.size := (Array.getElem?_eq_some_iff.1 hg).1
      have hv : w.heap[g] = .cells cur _ (0, 0) := (Array.getElem?_eq_some_iff.1 hg).2
      unfold World.setCell
      rw [Array.getElem?_eq_getElem (by simpa using hlt), Array.getElem_modify]
      simp [hv]
    · rw [List.length_set, List.map_set, ← ht, Array.toList_setIfInBounds, List.take_set]
theorem own_ptr {w : World} {B n cap : Nat} {p : Option Addr} {ss : List ByteArray} (h : Own w B (.slice p n cap) ss) (hl : 0 < ss.length) : ∃ g, p = some ⟨g, 0, none⟩ ∧ B ≤ g ∧ g < w.heap.size := by
  rcases h.2 with ⟨_, h0⟩ | ⟨g', cap', cur, h0, hb, hg, _⟩
  · omega
  · simp only [Value.slice.injEq] at h0
    exact ⟨g', h0.1, hb, (Array.getElem?_eq_some_iff.1 hg).1⟩
theorem rep_set {s : ByteArray} (k : Nat) (ss : List ByteArray) (h : k < ss.length) : (List.replicate k s ++ ss.drop k).set k s = List.replicate (k + 1) s ++ ss.drop (k + 1) := by
  rw [List.set_append_right _ _ (by simp), List.length_replicate, Nat.sub_self, List.drop_eq_getElem_cons h, List.replicate_succ']
  simp only [List.set_cons_zero, List.append_assoc, List.singleton_append]
theorem cells_new (w : World) (cs : Array Value) (t : TypeId) (s : ByteArray) (m : Nat) (h : ∀ j, j < m → cs[j]? = some (Value.string s)) : ∀ j, j < m → (w.alloc (.cells cs t)).cell? ((⟨w.heap.size, 0, none⟩ : Addr).add j) = some (.string s) := by
  intro j hj
  rw [add_plain, Nat.zero_add, World.cell?_alloc_mark]
  exact h j hj
theorem arr1 (s : ByteArray) : ∀ j : Nat, j < 1 → #[Value.string s][j]? = some (Value.string s) := by
  intro j hj
  match j, hj with
  | 0, _ => rfl
theorem arr2 (s : ByteArray) : ∀ j : Nat, j < 2 → #[Value.string s, .string s][j]? = some (Value.string s) := by
  intro j hj
  match j, hj with
  | 0, _ => rfl
  | 1, _ => rfl
theorem arr3 (s : ByteArray) : ∀ j : Nat, j < 3 → #[Value.string s, .string s, .string s][j]? = some (Value.string s) := by
  intro j hj
  match j, hj with
  | 0, _ => rfl
  | 1, _ => rfl
  | 2, _ => rfl
theorem Marked.below {w0 wr w' : World} {o : Obj} {D n : Nat} {v v' : Value} {s : ByteArray} (h : Marked (wr.alloc o) w' D v v' n s) (hb : Below D w0 wr) (hD : D ≤ wr.heap.size) (hown : Own wr D v (List.replicate n s)) : Below D w0 w' := by
  refine hb.trans ⟨h.grown.os, h.grown.tape, h.grown.output, ?_, fun k hk => ?_⟩
  · have := h.grown.size
    simp at this
    omega
  · rw [h.grown.block k (by simp; omega) (fun he => ?_), Below.heap_alloc _ _ _ (by omega)]
    have := (World.ownsRow.lt hown k he.symm).1
    omega
theorem one_slice {p : Option Addr} {n c : Nat} : ∀ u ∈ [Value.slice p n c], u.oneCell' = true := by intro u hu; simp at hu; subst hu; rfl
theorem grown_below {w w' : World} {o : Obj} {B W0 j : Nat} {v u : Value} (hg : (w.alloc o).grownBy w' v.ownBlock) (hB : B ≤ w.heap.size) (hv : ∀ k, some k = v.ownBlock → B ≤ k) (hW : B ≤ W0) : Below B w (w'.setCell ⟨W0, j, none⟩ u) := by
  refine (fun h0 : Below B w w' => ?_) ⟨hg.os, hg.tape, hg.output, ?_, fun k hk => ?_⟩
  · exact h0.setCell (show B ≤ (⟨W0, j, none⟩ : Addr).block from hW) u
  · have := hg.size
    simp at this
    omega
  · rw [hg.block k (by simp; omega) (fun he => ?_), Below.heap_alloc _ _ _ (by omega)]
    have := hv k he
    omega

set_option maxRecDepth 100000 in
set_option maxHeartbeats 8000000 in
theorem takes_any (w0 w : World) (B W0 n m : Nat) (P : Nat → PRec) (v1 v2 v3 : Value) (L1 L3 : Nat → Value) (h : St w0 B W0 n m (3 * m) P v1 v2 v3 L1 L3) (hb : Below w0.heap.size w0 w) (v : Value) (ss : List ByteArray) (ho : Own w w0.heap.size v ss) (hl : ss.length ≤ 200) (hm : m ≤ 1200000000000) (hB : B ≤ w0.heap.size) :
    Calls Tryz.prog 15 #[.pointer (some ⟨W0, 0, none⟩), v] w fun e w' => e = .returned (.tuple #[]) ∧ ∃ v2' v3' L1' L3', St w' B W0 n (m + 1) (3 * (m + 1)) P v1 v2' v3' L1' L3' ∧ Below B w0 w' := by
  obtain ⟨i0, hinf, hz0, hz1, hz2⟩ := info_parts infoSl
  obtain ⟨p, cap, rfl⟩ := own_slice ho
  obtain ⟨p2, k2, e2⟩ := own_slice h.ls
  obtain ⟨p3, k3, e3⟩ := own_slice h.l3
  subst e2 e3
  obtain ⟨S, hS⟩ : ∃ S, strokeS m = S := ⟨_, rfl⟩
  have HS : Hid (strokeS m = S) := hS
  have HK : Hid (∀ w, Calls Tryz.prog 20 #[.int .i64 m] w fun e w' => e = .returned (.string S) ∧ w' = w) := fun w => by have := strokes_any m w (by omega); rwa [hS] at this
  clear hS
  have c1 := (h.grow hb).box.cell 1
  have H : Hid (St w0 B W0 n m (3 * m) P v1 (.slice p2 m k2) (.slice p3 (3 * m) k3) L1 L3) := h
  have HO : Hid _ := ho
  have HB : Hid _ := hb
  have hD : w0.heap.size ≤ w.heap.size := hb.size
  clear h ho hb
  generalize hDD : w0.heap.size = D at *
  go_enter Tryz.func15, Tryz.ntmps15
  go_wp2_with fail
  refine (HK.out _).mono ?_
  rintro e w1 ⟨rfl, rfl⟩
  clear HK c1
  go_wp2_with fail
  go_loopw [5] (fun i wr => ∃ k : Nat, k ≤ ss.length ∧ i = .int .i64 k ∧ Hid (Own wr D (.slice p ss.length cap) (List.replicate k S ++ ss.drop k)) ∧ Hid (Below D w0 wr) ∧ D ≤ wr.heap.size) (fun i _ => ss.length - (intOf i).toNat)
  case atStart => exact ⟨0, by omega, rfl, HO, HB, hD⟩
  case round =>
    obtain ⟨k, hk, rfl, HO1, HB1, hD1⟩ := hrel
    by_cases hlt : k < ss.length
    · have hlen : (List.replicate k S ++ ss.drop k).length = ss.length := by simp; omega
      obtain ⟨g, rfl, hg, _⟩ := own_ptr HO1.out (by omega)
      obtain ⟨q1, q2⟩ := ownCells HO1.out k (by omega)
      have HX : Hid _ := ownSet HO1.out k S
      rw [rep_set k ss hlt] at HX
      generalize (List.replicate k S ++ ss.drop k)[k] = x at *
      clear HO hlen
      go_wp2_with fail
      go_roundw
      case rel => exact ⟨k + 1, by omega, by go_num, HX, HB1.out.setCell hg _, by simpa using hD1⟩
      case measure => simp [intOf]; omega
    · have hkl : k = ss.length := by omega
      subst hkl
      have HO2 : Hid (Own wr D (.slice p ss.length cap) (List.replicate ss.length S)) := by
        have := HO1.out
        rw [List.drop_length, List.append_nil] at this
        exact this
      clear HO HO1 HB hlt hk
      generalize ss.length = N at *
      go_wp2_with (at_builtin; refine wpList_append_m _ rfl _ _ rfl D _ N S (by omega) rfl (Own.grow HO2.out ((Below.refl _ _).alloc (Nat.le_refl _) _)) ⟨wr.heap.size, 0, none⟩ 1 1 rfl (by omega) (by omega) (cells_new _ _ _ S 1 (arr1 S)) ?_)
      intro g1 w1 hM1
      have HB2 : Hid (Below D w0 w1) := hM1.below HB1.out hD1 HO2.out
      have HO3 : Hid (Own w1 D (.slice p N cap) (List.replicate N S)) := hM1.own
      have F1 : Hid (Full w1 g1 S) := hM1.new
      have hD2 : D ≤ w1.heap.size := by have := hM1.grown.size; simp at this; omega
      obtain ⟨pg1, ng1, cg1, rfl, _⟩ := hM1.new
      clear hM1 HO2 HB1 hD1
      go_wp2_with (at_builtin; refine wpList_append_m _ rfl _ _ rfl D _ N S (by omega) rfl (Own.grow HO3.out ((Below.refl _ _).alloc (Nat.le_refl _) _)) ⟨w1.heap.size, 0, none⟩ 2 2 rfl (by omega) (by omega) (cells_new _ _ _ S 2 (arr2 S)) ?_)
      intro g2 w2 hM2
      have HB3 : Hid (Below D w0 w2) := hM2.below HB2.out hD2 HO3.out
      have HO4 : Hid (Own w2 D (.slice p N cap) (List.replicate N S)) := hM2.own
      have F2 : Hid (Full w2 g2 S) := hM2.new
      have F1b : Hid (Full w2 (.slice pg1 ng1 cg1) S) := hM2.full _ (Full.grow F1.out ((Below.refl _ _).alloc (Nat.le_refl _) _))
      have hD3 : D ≤ w2.heap.size := by have := hM2.grown.size; simp at this; omega
      obtain ⟨pg2, ng2, cg2, rfl, _⟩ := hM2.new
      clear hM2 HO3 HB2 hD2 F1
      go_wp2_with (at_builtin; refine wpList_append_m _ rfl _ _ rfl D _ N S (by omega) rfl (Own.grow HO4.out ((Below.refl _ _).alloc (Nat.le_refl _) _)) ⟨w2.heap.size, 0, none⟩ 3 3 rfl (by omega) (by omega) (cells_new _ _ _ S 3 (arr3 S)) ?_)
      intro g3 w3 hM3
      have HB4 : Hid (Below D w0 w3) := hM3.below HB3.out hD3 HO4.out
      have F0c : Hid (Full w3 (.slice p N cap) S) := full_of_owns (own_rep.1 hM3.own) (by omega)
      have F3 : Hid (Full w3 g3 S) := hM3.new
      have F2b : Hid (Full w3 (.slice pg2 ng2 cg2) S) := hM3.full _ (Full.grow F2.out ((Below.refl _ _).alloc (Nat.le_refl _) _))
      have F1c : Hid (Full w3 (.slice pg1 ng1 cg1) S) := hM3.full _ (Full.grow F1b.out ((Below.refl _ _).alloc (Nat.le_refl _) _))
      have hD4 : D ≤ w3.heap.size := by have := hM3.grown.size; simp at this; omega
      obtain ⟨pg3, ng3, cg3, rfl, _⟩ := hM3.new
      clear hM3 HO4 HB3 hD3 F1b F2
      have HS3 : Hid (St w3 B W0 n m (3 * m) P v1 (.slice p2 m k2) (.slice p3 (3 * m) k3) L1 L3) := H.out.grow (by rw [hDD]; exact HB4.out)
      have HBB : Hid (Below B w0 w3) := HB4.out.mono hB
      have c1 := HS3.out.box.cell 1
      have hW := HS3.out.hW
      clear HB4 H
      go_wp2_with (at_builtin; refine wpList_append_mine _ rfl _ _ 25 rfl B 32 i0 (.slice none 0 0) 1 24 Tryz.underlying25 hinf hz0 hz1 hz2 rfl (by decide) _ m _ rfl (HS3.out.grow ((Below.refl _ _).alloc (Nat.le_refl _) _)).ls ⟨w3.heap.size, 0, none⟩ 1 1 [.slice p N cap] rfl rfl (cell_one_new _ _ _) one_slice (by unfold maxLen; omega) (by omega) (by simp; omega) ?_)
      intro v2' w4 ho4 hg4 hn4
      obtain ⟨p5, k5, rfl⟩ := own_slice ho4
      have HSa : Hid (St _ B W0 n m (3 * m) P v1 (.slice p2 m k2) (.slice p3 (3 * m) k3) L1 L3) := HS3.out.grow ((Below.refl _ _).alloc (Nat.le_refl _) (.cells #[.slice p N cap] 32))
      have b4 := field_box HSa.out.box HSa.out.ls rfl hg4
      have d1 := b4.cell 1
      have e1 := b4.frozen 1
      obtain ⟨S5, K5⟩ := HSa.out.moreLs (.slice p N cap) (by rw [HS.out]; exact Full.grow F0c.out ((Below.refl _ _).alloc (Nat.le_refl _) _)) ho4 hg4 (fun k hk => by have := hn4 k hk; simpa using this)
      have HBB5 : Hid (Below B w0 (w4.setCell ⟨W0, 1, none⟩ (.slice p5 (m + 1) k5))) := HBB.out.trans (grown_below hg4 (by omega) (fun k hk => (owns_block HS3.out.ls k hk).1) hW)
      have HS5 : Hid (St (w4.setCell ⟨W0, 1, none⟩ (.slice p5 (m + 1) k5)) B W0 n (m + 1) (3 * m) P v1 (.slice p5 (m + 1) k5) (.slice p3 (3 * m) k3) (updF L1 m (.slice p N cap)) L3) := S5
      have G1 : Hid (Full (w4.setCell ⟨W0, 1, none⟩ (.slice p5 (m + 1) k5)) (.slice pg1 ng1 cg1) S) := K5 _ _ (Full.grow F1c.out ((Below.refl _ _).alloc (Nat.le_refl _) _))
      have G2 : Hid (Full (w4.setCell ⟨W0, 1, none⟩ (.slice p5 (m + 1) k5)) (.slice pg2 ng2 cg2) S) := K5 _ _ (Full.grow F2b.out ((Below.refl _ _).alloc (Nat.le_refl _) _))
      have G3 : Hid (Full (w4.setCell ⟨W0, 1, none⟩ (.slice p5 (m + 1) k5)) (.slice pg3 ng3 cg3) S) := K5 _ _ (Full.grow F3.out ((Below.refl _ _).alloc (Nat.le_refl _) _))
      have hD5 : D ≤ (w4.setCell ⟨W0, 1, none⟩ (.slice p5 (m + 1) k5)).heap.size := by have := hg4.size; simp at this ⊢; omega
      clear S5 K5 ho4 hg4 hn4 HSa HS3 HBB F0c F1c F2b F3 c1 b4 hD4
      go_upto_region 9 with fail
      generalize w4.setCell ⟨W0, 1, none⟩ (.slice p5 (m + 1) k5) = w5 at *
      clear d1 e1
      obtain ⟨XS, hXS⟩ : ∃ XS, (List.range (3 * m)).map (fun i => (L3) i) = XS := ⟨_, rfl⟩
      have HXS : Hid _ := hXS
      have HL : Hid _ := HS5.out.l3
      rw [hXS] at HL
      clear hXS
      have c2 := HS5.out.box.cell 2
      go_wp2_with (at_builtin; refine wpList_append_mine _ rfl _ _ 25 rfl B 32 i0 (.slice none 0 0) 1 24 Tryz.underlying25 hinf hz0 hz1 hz2 rfl (by decide) _ (3 * m) _ rfl (World.ownsRow.alloc HL.out _) ⟨w5.heap.size, 0, none⟩ 1 1 [(.slice pg1 ng1 cg1)] rfl rfl (cell_one_new _ _ _) one_slice (by unfold maxLen; omega) (by omega) (by simp; omega) ?_)
      intro v3' w6 ho hg hn
      obtain ⟨p7, k7, rfl⟩ := own_slice ho
      rw [← HXS.out] at ho
      clear HXS HL
      have HSa : Hid (St _ B W0 n (m + 1) (3 * m) P v1 (.slice p5 (m + 1) k5) (.slice p3 (3 * m) k3) (updF L1 m (.slice p N cap)) (L3)) := HS5.out.grow ((Below.refl _ _).alloc (Nat.le_refl _) (.cells #[(.slice pg1 ng1 cg1)] 32))
      have b4 := field_box HSa.out.box HSa.out.l3 rfl hg
      have d1 := b4.cell 2
      have e1 := b4.frozen 2
      obtain ⟨S5, K5⟩ := HSa.out.moreL3 (.slice pg1 ng1 cg1) (by rw [show (3 * m) / 3 = m by omega, HS.out]; exact Full.grow G1.out ((Below.refl _ _).alloc (Nat.le_refl _) _)) ho hg (fun k hk => by have := hn k hk; simpa using this)
      have HBB7 : Hid (Below B w0 (w6.setCell ⟨W0, 2, none⟩ (.slice p7 (3 * m + 1) k7))) := HBB5.out.trans (grown_below hg (by omega) (fun k hk => (owns_block HS5.out.l3 k hk).1) hW)
      have HS7 : Hid (St (w6.setCell ⟨W0, 2, none⟩ (.slice p7 (3 * m + 1) k7)) B W0 n (m + 1) (3 * m + 1) P v1 (.slice p5 (m + 1) k5) (.slice p7 (3 * m + 1) k7) (updF L1 m (.slice p N cap)) (updF (L3) (3 * m) (.slice pg1 ng1 cg1))) := S5
      have G2x : Hid (Full (w6.setCell ⟨W0, 2, none⟩ (.slice p7 (3 * m + 1) k7)) (.slice pg2 ng2 cg2) S) := K5 _ _ (Full.grow G2.out ((Below.refl _ _).alloc (Nat.le_refl _) _))
      have G3x : Hid (Full (w6.setCell ⟨W0, 2, none⟩ (.slice p7 (3 * m + 1) k7)) (.slice pg3 ng3 cg3) S) := K5 _ _ (Full.grow G3.out ((Below.refl _ _).alloc (Nat.le_refl _) _))
      have hD7 : D ≤ (w6.setCell ⟨W0, 2, none⟩ (.slice p7 (3 * m + 1) k7)).heap.size := by have := hg.size; simp at this ⊢; omega
      clear S5 K5 ho hg hn HSa HS5 HBB5 c2 b4 hD5 G1 G2 G3
      have G2 := G2x
      clear G2x
      have G3 := G3x
      clear G3x
      go_upto_region 10 with fail
      generalize w6.setCell ⟨W0, 2, none⟩ (.slice p7 (3 * m + 1) k7) = w7 at *
      clear d1 e1
      obtain ⟨XS, hXS⟩ : ∃ XS, (List.range (3 * m + 1)).map (fun i => (updF (L3) (3 * m) (.slice pg1 ng1 cg1)) i) = XS := ⟨_, rfl⟩
      have HXS : Hid _ := hXS
      have HL : Hid _ := HS7.out.l3
      rw [hXS] at HL
      clear hXS
      have c2 := HS7.out.box.cell 2
      go_wp2_with (at_builtin; refine wpList_append_mine _ rfl _ _ 25 rfl B 32 i0 (.slice none 0 0) 1 24 Tryz.underlying25 hinf hz0 hz1 hz2 rfl (by decide) _ (3 * m + 1) _ rfl (World.ownsRow.alloc HL.out _) ⟨w7.heap.size, 0, none⟩ 1 1 [(.slice pg2 ng2 cg2)] rfl rfl (cell_one_new _ _ _) one_slice (by unfold maxLen; omega) (by omega) (by simp; omega) ?_)
      intro v3' w8 ho hg hn
      obtain ⟨p9, k9, rfl⟩ := own_slice ho
      rw [← HXS.out] at ho
      clear HXS HL
      have HSa : Hid (St _ B W0 n (m + 1) (3 * m + 1) P v1 (.slice p5 (m + 1) k5) (.slice p7 (3 * m + 1) k7) (updF L1 m (.slice p N cap)) (updF (L3) (3 * m) (.slice pg1 ng1 cg1))) := HS7.out.grow ((Below.refl _ _).alloc (Nat.le_refl _) (.cells #[(.slice pg2 ng2 cg2)] 32))
      have b4 := field_box HSa.out.box HSa.out.l3 rfl hg
      have d1 := b4.cell 2
      have e1 := b4.frozen 2
      obtain ⟨S5, K5⟩ := HSa.out.moreL3 (.slice pg2 ng2 cg2) (by rw [show (3 * m + 1) / 3 = m by omega, HS.out]; exact Full.grow G2.out ((Below.refl _ _).alloc (Nat.le_refl _) _)) ho hg (fun k hk => by have := hn k hk; simpa using this)
      have HBB9 : Hid (Below B w0 (w8.setCell ⟨W0, 2, none⟩ (.slice p9 (3 * m + 1 + 1) k9))) := HBB7.out.trans (grown_below hg (by omega) (fun k hk => (owns_block HS7.out.l3 k hk).1) hW)
      have HS9 : Hid (St (w8.setCell ⟨W0, 2, none⟩ (.slice p9 (3 * m + 1 + 1) k9)) B W0 n (m + 1) (3 * m + 1 + 1) P v1 (.slice p5 (m + 1) k5) (.slice p9 (3 * m + 1 + 1) k9) (updF L1 m (.slice p N cap)) (updF (updF (L3) (3 * m) (.slice pg1 ng1 cg1)) (3 * m + 1) (.slice pg2 ng2 cg2))) := S5
      have G3x : Hid (Full (w8.setCell ⟨W0, 2, none⟩ (.slice p9 (3 * m + 1 + 1) k9)) (.slice pg3 ng3 cg3) S) := K5 _ _ (Full.grow G3.out ((Below.refl _ _).alloc (Nat.le_refl _) _))
      have hD9 : D ≤ (w8.setCell ⟨W0, 2, none⟩ (.slice p9 (3 * m + 1 + 1) k9)).heap.size := by have := hg.size; simp at this ⊢; omega
      clear S5 K5 ho hg hn HSa HS7 HBB7 c2 b4 hD7 G2 G3
      have G3 := G3x
      clear G3x
      go_upto_region 11 with fail
      generalize w8.setCell ⟨W0, 2, none⟩ (.slice p9 (3 * m + 1 + 1) k9) = w9 at *
      clear d1 e1
      obtain ⟨XS, hXS⟩ : ∃ XS, (List.range (3 * m + 1 + 1)).map (fun i => (updF (updF (L3) (3 * m) (.slice pg1 ng1 cg1)) (3 * m + 1) (.slice pg2 ng2 cg2)) i) = XS := ⟨_, rfl⟩
      have HXS : Hid _ := hXS
      have HL : Hid _ := HS9.out.l3
      rw [hXS] at HL
      clear hXS
      have c2 := HS9.out.box.cell 2
      go_wp2_with (at_builtin; refine wpList_append_mine _ rfl _ _ 25 rfl B 32 i0 (.slice none 0 0) 1 24 Tryz.underlying25 hinf hz0 hz1 hz2 rfl (by decide) _ (3 * m + 1 + 1) _ rfl (World.ownsRow.alloc HL.out _) ⟨w9.heap.size, 0, none⟩ 1 1 [(.slice pg3 ng3 cg3)] rfl rfl (cell_one_new _ _ _) one_slice (by unfold maxLen; omega) (by omega) (by simp; omega) ?_)
      intro v3' w10 ho hg hn
      obtain ⟨p11, k11, rfl⟩ := own_slice ho
      rw [← HXS.out] at ho
      clear HXS HL
      have HSa : Hid (St _ B W0 n (m + 1) (3 * m + 1 + 1) P v1 (.slice p5 (m + 1) k5) (.slice p9 (3 * m + 1 + 1) k9) (updF L1 m (.slice p N cap)) (updF (updF (L3) (3 * m) (.slice pg1 ng1 cg1)) (3 * m + 1) (.slice pg2 ng2 cg2))) := HS9.out.grow ((Below.refl _ _).alloc (Nat.le_refl _) (.cells #[(.slice pg3 ng3 cg3)] 32))
      have b4 := field_box HSa.out.box HSa.out.l3 rfl hg
      have d1 := b4.cell 2
      have e1 := b4.frozen 2
      obtain ⟨S5, K5⟩ := HSa.out.moreL3 (.slice pg3 ng3 cg3) (by rw [show (3 * m + 1 + 1) / 3 = m by omega, HS.out]; exact Full.grow G3.out ((Below.refl _ _).alloc (Nat.le_refl _) _)) ho hg (fun k hk => by have := hn k hk; simpa using this)
      have HBB11 : Hid (Below B w0 (w10.setCell ⟨W0, 2, none⟩ (.slice p11 (3 * m + 1 + 1 + 1) k11))) := HBB9.out.trans (grown_below hg (by omega) (fun k hk => (owns_block HS9.out.l3 k hk).1) hW)
      have HS11 : Hid (St (w10.setCell ⟨W0, 2, none⟩ (.slice p11 (3 * m + 1 + 1 + 1) k11)) B W0 n (m + 1) (3 * m + 1 + 1 + 1) P v1 (.slice p5 (m + 1) k5) (.slice p11 (3 * m + 1 + 1 + 1) k11) (updF L1 m (.slice p N cap)) (updF (updF (updF (L3) (3 * m) (.slice pg1 ng1 cg1)) (3 * m + 1) (.slice pg2 ng2 cg2)) (3 * m + 1 + 1) (.slice pg3 ng3 cg3))) := S5
      have hD11 : D ≤ (w10.setCell ⟨W0, 2, none⟩ (.slice p11 (3 * m + 1 + 1 + 1) k11)).heap.size := by have := hg.size; simp at this ⊢; omega
      clear S5 K5 ho hg hn HSa HS9 HBB9 c2 b4 hD9 G3
      go_wp2_with fail
      go_end0
      exact ⟨rfl, _, _, _, _, HS11.out, HBB11.out⟩
end Go.Proofs.YtkhnjipjbhcgdaaGreat
