/-
  THE WALKS of (*fold).standLeft, standRight, climb.
-/
import Derived.Test.YtnekilnfhkoogaaTSide
import Derived.Test.YtnekilnfhkoogaaTBox
namespace Go.Proofs.Ytnekilnfhkoogaa
open Go.RowKit

/-- Of what lay there block R alone has turned. -/
structure But (R : Nat) (w w' : World) : Prop where
  os : w'.os = w.os
  tape : w'.tape = w.tape
  output : w'.output = w.output
  size : w.heap.size ≤ w'.heap.size
  block : ∀ k, k < w.heap.size → k ≠ R → w'.heap[k]? = w.heap[k]?
theorem But.refl (R : Nat) (w : World) : But R w w := ⟨rfl, rfl, rfl, Nat.le_refl _, fun _ _ _ => rfl⟩
theorem But.of {R : Nat} {w w' : World} (h : Below w.heap.size w w') : But R w w' := ⟨h.os, h.tape, h.output, h.size, fun k hk _ => h.block k hk⟩
theorem But.trans {R : Nat} {a b c : World} (h1 : But R a b) (h2 : But R b c) : But R a c :=
  ⟨h2.os.trans h1.os, h2.tape.trans h1.tape, h2.output.trans h1.output, Nat.le_trans h1.size h2.size, fun k hk hR => (h2.block k (Nat.lt_of_lt_of_le hk h1.size) hR).trans (h1.block k hk hR)⟩
theorem But.drew {R : Nat} {a w : World} (h : But R a w) : But R a w.drew := h.trans (But.of ((Below.refl _ _).drew))
theorem But.setCell {R o : Nat} {a w : World} (h : But R a w) (u : Value) : But R a (w.setCell ⟨R, o, none⟩ u) :=
  ⟨h.os, h.tape, h.output, by simpa using h.size, fun k hk hR => by rw [Below.heap_setCell _ _ _ _ hR]; exact h.block k hk hR⟩
theorem But.below {R B : Nat} {a w : World} (h : But R a w) (hR : B ≤ R) (hB : B ≤ a.heap.size) : Below B a w :=
  ⟨h.os, h.tape, h.output, h.size, fun k hk => h.block k (by omega) (by omega)⟩
theorem Box.but {R B : Nat} {w w' : World} {t : TypeId} {l : List Value} (h : Box w B t l) (hb : But R w w') (hne : B ≠ R) : Box w' B t l := by
  unfold Box
  rw [hb.block B h.lt hne]
  exact h
theorem Row.but {R : Nat} {w w' : World} {p : Option Addr} {ss : List ByteArray} (hr : Row w p ss) (h : But R w w') (hB : ∀ b o, ss ≠ [] → p = some ⟨b, o, none⟩ → b ≠ R) : Row w' p ss := by
  refine ⟨hr.len, hr.size, ?_⟩
  rcases hr.cell with h0 | ⟨b, o, rfl, hb, hc⟩
  · exact Or.inl h0
  · exact Or.inr ⟨b, o, rfl, Nat.lt_of_lt_of_le hb h.size, fun i hi => by rw [World.cell?_of_block (w := w) (h.block b hb (hB b o (fun h0 => by simp [h0] at hi) rfl))]; exact hc i hi⟩
theorem SRow.but {R : Nat} {w w' : World} {q : Option Addr} {S : List Bool} (hr : SRow w q S) (h : But R w w') (hB : ∀ g, q = some ⟨g, 0, none⟩ → g ≠ R) : SRow w' q S := by
  rcases hr with h0 | ⟨g, rfl, hg, hc⟩
  · exact Or.inl h0
  · exact Or.inr ⟨g, rfl, Nat.lt_of_lt_of_le hg h.size, fun i hi => by rw [World.cell?_of_block (w := w) (h.block g hg (hB g rfl))]; exact hc i hi⟩

/-- sums.Of of the three parts of a node, laid anew, behind a draw. -/
theorem of_node (a b : ByteArray) (w : World) (ha : a.size ≤ maxLen) (hb : b.size ≤ maxLen) :
    Calls Try.prog 44 #[.slice (some ⟨w.heap.size, 0, none⟩) 3 3] (w.alloc (.cells #[.string ⟨#[78]⟩, .string a, .string b] 9)).drew fun e w' => e = .returned (.string (Pl.sumB (Pl.textN a b))) ∧ Below w.heap.size w w' := by
  have h := of_of (some ⟨w.heap.size, 0, none⟩) 3 [⟨#[78]⟩, a, b] (Pl.textN a b).data.toList (w.alloc (.cells #[.string ⟨#[78]⟩, .string a, .string b] 9)).drew (Row.drew (Row.lit w [⟨#[78]⟩, a, b] (by simp [maxLen]) (lit3 (by decide) ha hb))) (by rw [cat3]; unfold Pl.textN; simp [ByteArray.data_append])
  refine h.mono fun e w' ⟨he, hw⟩ => ⟨he, ?_⟩
  exact ((Below.refl _ w).alloc (Nat.le_refl _) _).drew.trans (hw.mono (by simp))
theorem sumB_size (t : ByteArray) : (Pl.sumB t).size = 4 := rfl

set_option maxRecDepth 100000 in
set_option maxHeartbeats 4000000 in
theorem tleft_one (F R : Nat) (r p : ByteArray) (w : World) (hF : Box w F 89 [.slice (some ⟨R, 0, none⟩) 1 1]) (hR : Box w R 9 [.string r]) (hz : r.size ≤ maxLen) (hp : p.size ≤ maxLen) :
    Calls Try.prog 100 #[.pointer (some ⟨F, 0, none⟩), .string p] w fun e w' => e = .returned (.tuple #[]) ∧ But R w w' ∧ Box w' R 9 [.string (Pl.sumB (Pl.textN r p))] := by
  have HO : Hid _ := fun w => of_node r p w hz hp
  generalize Pl.sumB (Pl.textN r p) = N at *
  have c0 := hF.cell 0
  have c1 := hR.cell 0
  have lF := hF.lt
  have lR := hR.lt
  go_enter Try.func100, Try.ntmps100
  go_wp2_with fail
  go_region_with (first
    | (go_at_call 44; refine (HO.out _).mono ?_; rintro e w2 ⟨rfl, hb2⟩; have hF2 := hF.grow hb2 hF.lt; have hR2 := hR.grow hb2 hR.lt; have d0 := hF2.cell 0; have d1 := hR2.cell 0; have f1 := hR2.frozen 0))
  all_goals
    go_end0
    exact ⟨rfl, (But.of hb2).setCell _, hR2.set 0 _⟩

set_option maxRecDepth 100000 in
set_option maxHeartbeats 4000000 in
theorem tleft_two (F R : Nat) (a b p : ByteArray) (w : World) (hF : Box w F 89 [.slice (some ⟨R, 0, none⟩) 2 2]) (hR : Box w R 9 [.string a, .string b]) (hz : b.size ≤ maxLen) (hp : p.size ≤ maxLen) :
    Calls Try.prog 100 #[.pointer (some ⟨F, 0, none⟩), .string p] w fun e w' => e = .returned (.tuple #[]) ∧ But R w w' ∧ Box w' R 9 [.string a, .string (Pl.sumB (Pl.textN b p))] := by
  have HO : Hid _ := fun w => of_node b p w hz hp
  generalize Pl.sumB (Pl.textN b p) = N at *
  have c0 := hF.cell 0
  have c1 := hR.cell 1
  have lF := hF.lt
  have lR := hR.lt
  go_enter Try.func100, Try.ntmps100
  go_wp2_with fail
  go_region_with (first
    | (go_at_call 44; refine (HO.out _).mono ?_; rintro e w2 ⟨rfl, hb2⟩; have hF2 := hF.grow hb2 hF.lt; have hR2 := hR.grow hb2 hR.lt; have d0 := hF2.cell 0; have d1 := hR2.cell 1; have f1 := hR2.frozen 1))
  all_goals
    go_end0
    exact ⟨rfl, (But.of hb2).setCell _, hR2.set 1 _⟩

theorem tleft_any (F R : Nat) (rs : List ByteArray) (p : ByteArray) (w : World) (hn : rs.length = 1 ∨ rs.length = 2) (hF : Box w F 89 [.slice (some ⟨R, 0, none⟩) rs.length rs.length]) (hR : Box w R 9 (rs.map Value.string)) (hz : ∀ r ∈ rs, r.size = 4) (hp : p.size ≤ maxLen) :
    Calls Try.prog 100 #[.pointer (some ⟨F, 0, none⟩), .string p] w fun e w' => e = .returned (.tuple #[]) ∧ But R w w' ∧ Box w' R 9 ((Pl.stand rs false p).map Value.string) := by
  match rs, hn with
  | [r], _ => exact tleft_one F R r p w hF hR (by rw [hz r (by simp)]; decide) hp
  | [a, b], _ => exact tleft_two F R a b p w hF hR (by rw [hz b (by simp)]; decide) hp

/-- The roots, the first k of them set behind a part. -/
def mix (rs : List ByteArray) (p : ByteArray) (k : Nat) : List Value := ((rs.take k).map (fun r => Pl.sumB (Pl.textN p r)) ++ rs.drop k).map Value.string
theorem mix_zero (rs : List ByteArray) (p : ByteArray) : mix rs p 0 = rs.map Value.string := by simp [mix]
theorem mix_all (rs : List ByteArray) (p : ByteArray) : mix rs p rs.length = (Pl.stand rs true p).map Value.string := by simp [mix, Pl.stand]
theorem mix_at (rs : List ByteArray) (p : ByteArray) (k : Nat) (h : k < rs.length) : (mix rs p k)[k]? = some (.string rs[k]) := by
  unfold mix
  rw [List.getElem?_map, List.getElem?_append_right (by simp; omega)]
  simp [Nat.min_eq_left (Nat.le_of_lt h), h]
theorem mix_set (rs : List ByteArray) (p : ByteArray) (k : Nat) (h : k < rs.length) : (mix rs p k).set k (.string (Pl.sumB (Pl.textN p rs[k]))) = mix rs p (k + 1) := by
  unfold mix
  have hl : ((rs.take k).map (fun r => Pl.sumB (Pl.textN p r))).length = k := by simp; omega
  rw [← List.map_set, List.set_append_right _ _ (by omega), hl, Nat.sub_self, List.drop_eq_getElem_cons h, List.set_cons_zero, List.take_succ_eq_append_getElem h]
  simp only [List.map_append, List.append_assoc, List.map_cons, List.map_nil, List.cons_append, List.nil_append]

set_option maxRecDepth 100000 in
set_option maxHeartbeats 4000000 in
theorem tright_all (F R : Nat) (rs : List ByteArray) (p : ByteArray) (w : World) (hn : rs.length ≤ 2) (hFR : F ≠ R) (hF : Box w F 89 [.slice (some ⟨R, 0, none⟩) rs.length rs.length]) (hR : Box w R 9 (rs.map Value.string)) (hz : ∀ r ∈ rs, r.size = 4) (hp : p.size ≤ maxLen) :
    Calls Try.prog 101 #[.pointer (some ⟨F, 0, none⟩), .string p] w fun e w' => e = .returned (.tuple #[]) ∧ But R w w' ∧ Box w' R 9 ((Pl.stand rs true p).map Value.string) := by
  have c0 := hF.cell 0
  have HR0 : Hid (Box w R 9 (mix rs p 0)) := by show Box _ _ _ _; rw [mix_zero]; exact hR
  have HE : Hid _ := mix_all rs p
  have HFx : Hid (Box w F 89 [.slice (some ⟨R, 0, none⟩) rs.length rs.length]) := hF
  clear hF hR
  go_enter Try.func101, Try.ntmps101
  go_wp2_with fail
  go_loopw [11] (fun i wr => ∃ k : Nat, k ≤ rs.length ∧ i = .int .i64 k ∧ But R w wr ∧ Hid (Box wr R 9 (mix rs p k))) (fun i _ => rs.length - (intOf i).toNat)
  case atStart => exact ⟨0, by omega, rfl, But.refl _ _, HR0⟩
  case round =>
    obtain ⟨k, hk, rfl, hbt, HB⟩ := hrel
    by_cases hlt : k < rs.length
    · have hFr := HFx.out.but hbt hFR
      have hRr := HB.out
      have d0 := hFr.cell 0
      have d1 := hRr.cell k
      rw [mix_at rs p k hlt] at d1
      have lF := hFr.lt
      have lR := hRr.lt
      have HM : Hid _ := mix_set rs p k hlt
      have HO : Hid _ := fun w => of_node p rs[k] w hp (by rw [hz _ (List.getElem_mem _)]; decide)
      generalize Pl.sumB (Pl.textN p rs[k]) = N at *
      generalize rs[k] = r at *
      clear c0 HB
      go_wp2_with fail
      go_region_with (first
        | (go_at_call 44; refine (HO.out _).mono ?_; rintro e w2 ⟨rfl, hb2⟩; have hF2 := hFr.grow hb2 hFr.lt; have hR2 := hRr.grow hb2 hRr.lt; have d20 := hF2.cell 0; have lF2 := hF2.lt; have lR2 := hR2.lt; have d21 : w2.cell? ⟨R, k, none⟩ = some (.string r) := by { rw [hb2.cell (p := ⟨R, k, none⟩) lR]; exact d1 }; have f21 := hR2.frozen k))
      all_goals
        go_wp2_with fail
        go_roundw
        case rel => exact ⟨k + 1, by omega, by go_num, (hbt.trans (But.of hb2)).setCell _, by rw [← HM.out]; exact hR2.set k _⟩
        case measure => simp [intOf]; omega
    · go_wp2_with fail
      go_end0
      refine ⟨rfl, hbt, ?_⟩
      rw [← HE.out, show rs.length = k by omega]
      exact HB.out

end Go.Proofs.Ytnekilnfhkoogaa
