import Derived.Test.YtkhnjipjbhcgdaaGreatTJoin
/-
  THE WALKS of (*Fold).standLeft, standRight.
-/
namespace Go.Proofs.YtkhnjipjbhcgdaaGreat
open Go.RowKit

/-- What a step of a Fold leaves: its roots in block R, its texts. -/
structure Step (B F R : Nat) (rv v v' : Value) (l : List Value) (ts : List ByteArray) (w w' : World) : Prop where
  fo : Fo w' B F rv v' ts
  roots : Box w' R 9 l
  off : ¬ Mine F v' R
  turn : Turn (fun k => k = R ∨ Mine F v k) w w'
  own : ∀ k, some k = v'.ownBlock → some k = v.ownBlock ∨ w.heap.size ≤ k
theorem Step.refl {B F R : Nat} {rv v : Value} {l : List Value} {ts : List ByteArray} {w : World} (hF : Fo w B F rv v ts) (hR : Box w R 9 l) (hm : ¬ Mine F v R) : Step B F R rv v v l ts w w :=
  ⟨hF, hR, hm, Turn.refl _ _, fun _ h => Or.inl h⟩
theorem Step.trans {B F R : Nat} {rv v v1 v2 : Value} {l1 l2 : List Value} {t1 t2 : List ByteArray} {w w1 w2 : World} (h1 : Step B F R rv v v1 l1 t1 w w1) (h2 : Step B F R rv v1 v2 l2 t2 w1 w2) : Step B F R rv v v2 l2 t2 w w2 := by
  refine ⟨h2.fo, h2.roots, h2.off, h1.turn.trans h2.turn ?_, ?_⟩
  · rintro k hk (rfl | rfl | h)
    · exact Or.inl rfl
    · exact Or.inr (Or.inl rfl)
    · rcases h1.own k h with h | h
      · exact Or.inr (Or.inr h)
      · omega
  · intro k hk
    rcases h2.own k hk with h | h
    · exact h1.own k h
    · exact Or.inr (Nat.le_trans h1.turn.size h)
theorem Step.of {B F R o : Nat} {rv v v' u : Value} {l l' : List Value} {ts ts' : List ByteArray} {w w2 : World} (_hF : Fo w B F rv v ts) (hR : Box w R 9 l) (hm : ¬ Mine F v R) (hd : Done B F rv v v' ts' w w2) (hl : l.set o u = l') : Step B F R rv v v' l' ts' w (w2.setCell ⟨R, o, none⟩ u) := by
  have hR2 := hR.turn hd.turn hm
  have hlR := hR.lt
  have hoff : ¬ Mine F v' R := by
    rintro (rfl | h)
    · exact hm (Or.inl rfl)
    · rcases hd.own R h with h | h
      · exact hm (Or.inr h)
      · omega
  have hT : Turn (fun k => k = R) w2 (w2.setCell ⟨R, o, none⟩ u) := (Turn.refl (fun k => k = R) w2).setCell (fun _ => rfl) u
  refine ⟨hd.fo.turn hT ?_, ?_, hoff, ?_, hd.own⟩
  · rintro k hk rfl
    exact hoff hk
  · rw [← hl]
    exact hR2.set o u
  · refine (Turn.trans (X := fun k => k = R ∨ Mine F v k) ⟨hd.turn.os, hd.turn.tape, hd.turn.output, hd.turn.size, fun k hk hX => hd.turn.block k hk (fun h => hX (Or.inr h))⟩ hT ?_)
    rintro k _ rfl
    exact Or.inl rfl

set_option maxRecDepth 100000 in
set_option maxHeartbeats 4000000 in
theorem tleft_one (B F R : Nat) (r p : ByteArray) (v : Value) (ts : List ByteArray) (w : World) (hB : B ≤ w.heap.size) (hF : Fo w B F (.slice (some ⟨R, 0, none⟩) 1 1) v ts) (hR : Box w R 9 [.string r]) (hm : ¬ Mine F v R) (hz : r.size = 4) (hp : p.size = 4) (hl : ts.length < 4000) :
    Calls Tryz.prog 100 #[.pointer (some ⟨F, 0, none⟩), .string p] w fun e w' => e = .returned (.tuple #[]) ∧ ∃ v', Step B F R (.slice (some ⟨R, 0, none⟩) 1 1) v v' [.string (Pl.sumB (Pl.textN r p))] (ts ++ [Pl.textN r p]) w w' := by
  have HO : Hid _ := fo_node B F (.slice (some ⟨R, 0, none⟩) 1 1) v ts r p w hF hB hz hp hl
  have HF : Hid _ := hF
  generalize Pl.textN r p = T at *
  generalize Pl.sumB T = N at *
  have c0 := hF.box.cell 0
  have c1 := hR.cell 0
  have lF := hF.box.lt
  have lR := hR.lt
  clear hF
  go_enter Tryz.func100, Tryz.ntmps100
  go_wp2_with fail
  go_region_with (first
    | (go_at_call 90; refine Calls.mono HO.out ?_; rintro e w2 ⟨rfl, v2, hd⟩; have HD : Hid _ := hd; have hR2 := hR.turn hd.turn hm; have d0 := hd.fo.box.cell 0; have d1 := hR2.cell 0; have f1 := hR2.frozen 0; have lF2 := hd.fo.box.lt; have lR2 := hR2.lt; clear hd))
  all_goals
    go_end0
    exact ⟨rfl, v2, Step.of HF.out hR hm HD.out rfl⟩

set_option maxRecDepth 100000 in
set_option maxHeartbeats 4000000 in
theorem tleft_two (B F R : Nat) (a r p : ByteArray) (v : Value) (ts : List ByteArray) (w : World) (hB : B ≤ w.heap.size) (hF : Fo w B F (.slice (some ⟨R, 0, none⟩) 2 2) v ts) (hR : Box w R 9 [.string a, .string r]) (hm : ¬ Mine F v R) (hz : r.size = 4) (hp : p.size = 4) (hl : ts.length < 4000) :
    Calls Tryz.prog 100 #[.pointer (some ⟨F, 0, none⟩), .string p] w fun e w' => e = .returned (.tuple #[]) ∧ ∃ v', Step B F R (.slice (some ⟨R, 0, none⟩) 2 2) v v' [.string a, .string (Pl.sumB (Pl.textN r p))] (ts ++ [Pl.textN r p]) w w' := by
  have HO : Hid _ := fo_node B F (.slice (some ⟨R, 0, none⟩) 2 2) v ts r p w hF hB hz hp hl
  have HF : Hid _ := hF
  generalize Pl.textN r p = T at *
  generalize Pl.sumB T = N at *
  have c0 := hF.box.cell 0
  have c1 := hR.cell 1
  have lF := hF.box.lt
  have lR := hR.lt
  clear hF
  go_enter Tryz.func100, Tryz.ntmps100
  go_wp2_with fail
  go_region_with (first
    | (go_at_call 90; refine Calls.mono HO.out ?_; rintro e w2 ⟨rfl, v2, hd⟩; have HD : Hid _ := hd; have hR2 := hR.turn hd.turn hm; have d0 := hd.fo.box.cell 0; have d1 := hR2.cell 1; have f1 := hR2.frozen 1; have lF2 := hd.fo.box.lt; have lR2 := hR2.lt; clear hd))
  all_goals
    go_end0
    exact ⟨rfl, v2, Step.of HF.out hR hm HD.out rfl⟩

theorem tleft_any (B F R : Nat) (rs : List ByteArray) (p : ByteArray) (v : Value) (ts : List ByteArray) (w : World) (hn : rs.length = 1 ∨ rs.length = 2) (hB : B ≤ w.heap.size) (hF : Fo w B F (.slice (some ⟨R, 0, none⟩) rs.length rs.length) v ts) (hR : Box w R 9 (rs.map Value.string)) (hm : ¬ Mine F v R) (hz : ∀ r ∈ rs, r.size = 4) (hp : p.size = 4) (hl : ts.length + 2 ≤ 4000) :
    Calls Tryz.prog 100 #[.pointer (some ⟨F, 0, none⟩), .string p] w fun e w' => e = .returned (.tuple #[]) ∧ ∃ v', Step B F R (.slice (some ⟨R, 0, none⟩) rs.length rs.length) v v' ((Pl.stand rs false p).map Value.string) (ts ++ Pl.standT rs false p) w w' := by
  match rs, hn with
  | [r], _ => exact tleft_one B F R r p v ts w hB hF hR hm (hz r (by simp)) hp (by omega)
  | [a, b], _ => exact tleft_two B F R a b p v ts w hB hF hR hm (hz b (by simp)) hp (by omega)

/-- The roots, the first k of them set behind a part. -/
def mix (rs : List ByteArray) (p : ByteArray) (k : Nat) : List Value := ((rs.take k).map (fun r => Pl.sumB (Pl.textN p r)) ++ rs.drop k).map Value.string
theorem mix_zero (rs : List ByteArray) (p : ByteArray) : mix rs p 0 = rs.map Value.string := by simp [mix]
theorem mix_all (rs : List ByteArray) (p : ByteArray) : mix rs p rs.length = (Pl.stand rs true p).map Value.string := by simp [mix, Pl.stand]
theorem mix_at (rs : List ByteArray) (p : ByteArray) (k : Nat) (h : k < rs.length) : (mix rs p k)[k]? = some (.string rs[k]) := by
  unfold mix
  rw [List.getElem?_map, List.getElem?_append_right (by simp; omega)]
  simp [Nat.min_eq_left (Nat.le_of_lt h), h]
theorem mix_set (rs : List ByteArray) (p : ByteArray) (k : Nat) (h : k < rs.length) : (mix rs p k).set k (.string (Pl.sumB (Pl.textN p rs[k]))) = mix rs p (k + 1) := by
  unfold mix
  have hl : ((rs.take k).map (fun r => Pl.sumB (Pl.textN p r))).length = k := by simp; omega
  rw [← List.map_set, List.set_append_right _ _ (by omega), hl, Nat.sub_self, List.drop_eq_getElem_cons h, List.set_cons_zero, List.take_succ_eq_append_getElem h]
  simp only [List.map_append, List.append_assoc, List.map_cons, List.map_nil, List.cons_append, List.nil_append]
/-- The texts of the first k. -/
def mixT (rs : List ByteArray) (p : ByteArray) (k : Nat) : List ByteArray := (rs.take k).map (fun r => Pl.textN p r)
theorem mixT_snoc (rs : List ByteArray) (p : ByteArray) (k : Nat) (h : k < rs.length) : mixT rs p (k + 1) = mixT rs p k ++ [Pl.textN p rs[k]] := by
  unfold mixT
  rw [List.take_succ_eq_append_getElem h, List.map_append]
  rfl
theorem mixT_all (rs : List ByteArray) (p : ByteArray) : mixT rs p rs.length = Pl.standT rs true p := by simp [mixT, Pl.standT]
theorem mixT_length (rs : List ByteArray) (p : ByteArray) (k : Nat) : (mixT rs p k).length ≤ k := by simp [mixT]; omega

set_option maxRecDepth 100000 in
set_option maxHeartbeats 4000000 in
theorem tright_all (B F R : Nat) (rs : List ByteArray) (p : ByteArray) (v : Value) (ts : List ByteArray) (w : World) (hn : rs.length ≤ 2) (hB : B ≤ w.heap.size) (hF : Fo w B F (.slice (some ⟨R, 0, none⟩) rs.length rs.length) v ts) (hR : Box w R 9 (rs.map Value.string)) (hm : ¬ Mine F v R) (hz : ∀ r ∈ rs, r.size = 4) (hp : p.size = 4) (hl : ts.length + 2 ≤ 4000) :
    Calls Tryz.prog 101 #[.pointer (some ⟨F, 0, none⟩), .string p] w fun e w' => e = .returned (.tuple #[]) ∧ ∃ v', Step B F R (.slice (some ⟨R, 0, none⟩) rs.length rs.length) v v' ((Pl.stand rs true p).map Value.string) (ts ++ Pl.standT rs true p) w w' := by
  have c0 := hF.box.cell 0
  have H0 : Hid (Step B F R (.slice (some ⟨R, 0, none⟩) rs.length rs.length) v v (mix rs p 0) (ts ++ mixT rs p 0) w w) := by
    show Step _ _ _ _ _ _ _ _ _ _
    rw [mix_zero, show mixT rs p 0 = [] from rfl, List.append_nil]
    exact Step.refl hF hR hm
  have HE : Hid _ := mix_all rs p
  have HT : Hid _ := mixT_all rs p
  clear hF hR
  go_enter Tryz.func101, Tryz.ntmps101
  go_wp2_with fail
  go_loopw [11] (fun i wr => ∃ (k : Nat) (vk : Value), k ≤ rs.length ∧ i = .int .i64 k ∧ Hid (Step B F R (.slice (some ⟨R, 0, none⟩) rs.length rs.length) v vk (mix rs p k) (ts ++ mixT rs p k) w wr)) (fun i _ => rs.length - (intOf i).toNat)
  case atStart => exact ⟨0, v, by omega, rfl, H0⟩
  case round =>
    obtain ⟨k, vk, hk, rfl, HB⟩ := hrel
    by_cases hlt : k < rs.length
    · have hFr := HB.out.fo
      have hRr := HB.out.roots
      have hmr := HB.out.off
      have d0 := hFr.box.cell 0
      have d1 := hRr.cell k
      rw [mix_at rs p k hlt] at d1
      have lF := hFr.box.lt
      have lR := hRr.lt
      have HM : Hid _ := mix_set rs p k hlt
      have HMT : Hid _ := mixT_snoc rs p k hlt
      have hml := mixT_length rs p k
      have HO : Hid _ := fo_node B F (.slice (some ⟨R, 0, none⟩) rs.length rs.length) vk (ts ++ mixT rs p k) p rs[k] _ hFr (Nat.le_trans hB HB.out.turn.size) hp (hz _ (List.getElem_mem _)) (by rw [List.length_append]; omega)
      have HFr : Hid _ := hFr
      generalize Pl.textN p rs[k] = T at *
      generalize Pl.sumB T = N at *
      generalize rs[k] = r at *
      clear c0 hFr
      go_wp2_with fail
      go_region_with (first
        | (go_at_call 90; refine Calls.mono HO.out ?_; rintro e w2 ⟨rfl, v2, hd⟩; have HD : Hid _ := hd; have hR2 := hRr.turn hd.turn hmr; have d20 := hd.fo.box.cell 0; have lF2 := hd.fo.box.lt; have lR2 := hR2.lt; have d21 : w2.cell? ⟨R, k, none⟩ = some (.string r) := by { rw [World.cell?_of_block (w := wr) (hd.turn.block R lR hmr)]; exact d1 }; have f21 := hR2.frozen k; clear hd))
      all_goals
        go_wp2_with fail
        go_roundw
        case rel => exact ⟨k + 1, v2, by omega, by go_num, by rw [HMT.out, ← List.append_assoc]; exact HB.out.trans (Step.of HFr.out hRr hmr HD.out HM.out)⟩
        case measure => simp [intOf]; omega
    · go_wp2_with fail
      go_end0
      refine ⟨rfl, vk, ?_⟩
      have hke : k = rs.length := by omega
      subst hke
      rw [← HE.out, ← HT.out]
      exact HB.out

end Go.Proofs.YtkhnjipjbhcgdaaGreat
