import Derived.Test.YtkhnjipjbhcgdaaGreatPlainP
import Derived.Test.YtkhnjipjbhcgdaaGreatKLeaves
import Derived.Deep.RegionLaw
/-
  THE WALKS of tree.LeafPath, tree.parts, tree.GrowthPath.
-/
namespace Go.Proofs.YtkhnjipjbhcgdaaGreat
open Go.RowKit

/-- append ON A ROW OF THE CALL's OWN, as one step of a region that draws. -/
theorem step_append_own {P : Program} {ops : Array Oper} {o : Oper} {a : Act} {w : World} {K : Act → World → Prop} {Q : Exit → Act → World → Prop} {E : Prop}
    (hg : o.guard = none) (s x : Operand) (t : TypeId) (hop : o.op = Op.call { callee := Callee.builtin Builtin.append, args := #[s, x], argTypes := #[t, t] })
    (base : Nat) (e : TypeId) (i : TypeInfo) (z : Value) (size bytes : Nat) (h1 : P.underlying t = some (.slice e)) (h2 : P.info? e = some i) (h3 : i.zero = some z) (h4 : i.size = size) (h5 : i.bytes = bytes) (h6 : z.cells.size = size) (h7 : 0 < size)
    (v : Value) (n : Nat) (xs : List Value) (hs : a.eval s = v) (hown : w.ownsRow base e size v n xs)
    (ad : Addr) (m c : Nat) (news : List Value) (hx : a.eval x = .slice (some ad) m c) (hn : news.length = m * size) (hc : ∀ j u, news[j]? = some u → w.cell? (ad.add j) = some u) (h1c : ∀ u ∈ news, u.oneCell' = true)
    (b1 : n + m ≤ maxLen) (b2 : (n + m) * bytes ≤ 140737488355328) (b3 : base ≤ w.heap.size)
    (hK : ∀ v' w', w'.ownsRow base e size v' (n + m) (xs ++ news) → w.grownBy w' v.ownBlock → K (a.put o.dst v') w') :
    if Region.wanted o (yielded ops a.tmps) = true then Oper.wp P o a w K Q else E := by
  have hw : Region.wanted o (yielded ops a.tmps) = true := by simp [Region.wanted, hg]
  rw [if_pos hw]
  obtain ⟨v', w', hrun, r1, r2, _⟩ := run_append_own (P := P) w base t o.type e i z size bytes h1 h2 h3 h4 h5 h6 h7 v n xs hown ad m c news hn hc h1c b1 b2 b3
  unfold Oper.wp
  simp [execOp, hop, resolve, invoke, builtin, hs, hx, hrun, Result.andThen]
  exact hK v' w' r1 r2

theorem Own.grow {w w' : World} {B : Nat} {v : Value} {ss : List ByteArray} (h : Own w B v ss) (hb : Below w.heap.size w w') : Own w' B v ss := by
  refine ⟨h.1, ?_⟩
  rcases h.2 with hn | ⟨g, cap, cur, rfl, hB, hg, rest⟩
  · exact Or.inl hn
  · refine Or.inr ⟨g, cap, cur, rfl, hB, ?_, rest⟩
    rw [hb.block g (Array.getElem?_eq_some_iff.1 hg).1]
    exact hg
theorem own_nil (w : World) (B : Nat) : Own w B (.slice none 0 0) [] := World.ownsRow_nil _ _ _ _
theorem one_cell {s : ByteArray} : ∀ u ∈ [Value.string s], u.oneCell' = true := by intro u hu; simp at hu; subst hu; rfl
/-- What is behind an append of one text to a row of the call's own, which was made behind w. -/
theorem own_done {w w3 w' : World} {B : Nat} {v v' : Value} {ss : List ByteArray} {s : ByteArray} (hb : Below B w w3) (hB : B ≤ w3.heap.size) (h : Own w3 B v ss)
    (o : Obj) (h2 : w'.ownsRow B 9 1 v' (ss.length + 1) (ss.map Value.string ++ [.string s])) (hg : (w3.alloc o).grownBy w' v.ownBlock) : ∃ v'', v' = v'' ∧ Own w' B v'' (ss ++ [s]) ∧ Below B w w' :=
  ⟨v', rfl, own_step hb hB h o h2 hg⟩

set_option maxRecDepth 100000 in
set_option maxHeartbeats 400000 in
theorem lpath_one (p : Option Addr) (cap : Nat) (c : Int) (w : World) :
    Calls Tryz.prog 47 #[.slice p 1 cap, .int .i64 c] w fun e w' => ∃ v, e = .returned v ∧ Own w' w.heap.size v [] ∧ Below w.heap.size w w' ∧ v = .slice none 0 0 := by
  go_enter Tryz.func47, Tryz.ntmps47
  go_wp2_with fail
  go_ret
  exact ⟨_, rfl, own_nil _ _, Below.refl _ _, rfl⟩

set_option maxRecDepth 100000 in
set_option maxHeartbeats 1000000 in
theorem lpath_left (b o cap : Nat) (ss : List ByteArray) (i : Nat) (w : World) (h2 : 2 ≤ ss.length) (h40 : ss.length ≤ 40) (hcap : ss.length ≤ cap) (hcm : cap ≤ 9223372036854775807) (hr : Row w (some ⟨b, o, none⟩) ss) (hi : i < Pl.half ss.length)
    (ih : ∀ w, Row w (some ⟨b, o, none⟩) ss → Calls Tryz.prog 47 #[.slice (some ⟨b, o, none⟩) (Pl.half ss.length) cap, .int .i64 i] w fun e w' => ∃ v, e = .returned v ∧ Own w' w.heap.size v (Pl.path (ss.take (Pl.half ss.length)) i) ∧ Below w.heap.size w w') :
    Calls Tryz.prog 47 #[.slice (some ⟨b, o, none⟩) ss.length cap, .int .i64 i] w fun e w' => ∃ v, e = .returned v ∧ Own w' w.heap.size v (Pl.path ss i) ∧ Below w.heap.size w w' := by
  obtain ⟨i0, hinf, hz0, hz1, hz2⟩ := info_parts infoStr
  have hp := Pl.half_pos ss.length
  have hl := Pl.half_lt ss.length h2
  have e2 : (ss.drop (Pl.half ss.length)).length = ss.length - Pl.half ss.length := by rw [List.length_drop]
  have HS : Hid _ := fun w => split_any ss.length w h2 (by omega)
  have HA : Hid _ := ih
  have HB : Hid (∀ w, Row w (some ⟨b, o, none⟩) ss → Calls Tryz.prog 60 #[.slice (some ⟨b, o + Pl.half ss.length, none⟩) (ss.length - Pl.half ss.length) (cap - Pl.half ss.length)] w fun e w' => e = .returned (.string (Pl.root (ss.drop (Pl.half ss.length)))) ∧ Below w.heap.size w w') := by
    intro w hr
    have := root_any ss.length (some ⟨b, o + Pl.half ss.length, none⟩) (cap - Pl.half ss.length) (ss.drop (Pl.half ss.length)) w (by omega) (by omega) (by omega) (by omega) (hr.drop _)
    rwa [e2] at this
  have HE : Hid _ := Pl.path_left ss i h2 hi
  have HL : Hid _ := Pl.path_length ss.length (ss.take (Pl.half ss.length)) i (by rw [Pl.take_half ss h2]; omega)
  have HT : Hid _ := Pl.take_half ss h2
  have HR : Hid _ := hr
  have hne : ((ss.length : Int) == 1) = false := beq_eq_false_iff_ne.2 (by omega)
  clear hr ih e2
  generalize Pl.half ss.length = k at *
  have hPl : (Pl.path (ss.take k) i).length ≤ 40 := by have := HL.out; rw [HT.out] at this; omega
  have hkc : k ≤ cap := by omega
  have hkl : k ≤ ss.length := by omega
  have hkn : ¬ cap = k := by omega
  generalize Pl.path (ss.take k) i = P1 at *
  generalize Pl.root (ss.drop k) = r1 at *
  go_enter Tryz.func47, Tryz.ntmps47
  go_wp2_with fail
  refine (HS.out _).mono ?_
  rintro e w1 ⟨rfl, rfl⟩
  go_wp2_with fail
  go_region_law (first
    | (refine step_append_own rfl (.tmp 19) (.tmp 24) 32 rfl w1.heap.size 9 i0 (.string ByteArray.empty) 1 16 Tryz.underlying32 hinf hz0 hz1 hz2 rfl (by decide) v2 _ _ rfl (ho3.alloc _) ⟨w3.heap.size, 0, none⟩ 1 1 [.string r1] rfl rfl (cell_one_new _ _ _) one_cell (by unfold maxLen; omega) (by omega) (by simp; omega) ?_; intro v4 w4 ho4 hg4)
    | (go_simp; go_at_call 47; refine (HA.out _ ?_).mono ?_; exact HR.out.drew; rintro e w2 ⟨v2, rfl, ho2, hb2⟩)
    | (go_simp; go_at_call 60; refine (HB.out _ ?_).mono ?_; exact HR.out.drew.grow hb2 (Nat.le_refl _); rintro e w3 ⟨rfl, hb3⟩; have ho3 := ho2.grow hb3; have hs2 : w1.heap.size ≤ w2.heap.size := hb2.size; have hs3 := hb3.size))
  all_goals
    go_wp2_with fail
    go_ret
    have k3 : Below w1.heap.size w1 w3 := ((Below.refl w1.heap.size w1).drew.trans hb2).trans (hb3.mono hs2)
    have R := own_step k3 (by omega) ho3 _ ho4 hg4
    exact ⟨_, rfl, by rw [HE.out]; exact R.1, R.2⟩

set_option maxRecDepth 100000 in
set_option maxHeartbeats 1000000 in
theorem lpath_right (b o cap : Nat) (ss : List ByteArray) (i : Nat) (w : World) (h2 : 2 ≤ ss.length) (h40 : ss.length ≤ 40) (hcap : ss.length ≤ cap) (hcm : cap ≤ 9223372036854775807) (hr : Row w (some ⟨b, o, none⟩) ss) (hi : ¬ i < Pl.half ss.length) (hil : i < ss.length)
    (ih : ∀ w, Row w (some ⟨b, o, none⟩) ss → Calls Tryz.prog 47 #[.slice (some ⟨b, o + Pl.half ss.length, none⟩) (ss.length - Pl.half ss.length) (cap - Pl.half ss.length), .int .i64 ((i : Int) - (Pl.half ss.length : Int))] w fun e w' => ∃ v, e = .returned v ∧ Own w' w.heap.size v (Pl.path (ss.drop (Pl.half ss.length)) (i - Pl.half ss.length)) ∧ Below w.heap.size w w') :
    Calls Tryz.prog 47 #[.slice (some ⟨b, o, none⟩) ss.length cap, .int .i64 i] w fun e w' => ∃ v, e = .returned v ∧ Own w' w.heap.size v (Pl.path ss i) ∧ Below w.heap.size w w' := by
  obtain ⟨i0, hinf, hz0, hz1, hz2⟩ := info_parts infoStr
  have hp := Pl.half_pos ss.length
  have hl := Pl.half_lt ss.length h2
  have HS : Hid _ := fun w => split_any ss.length w h2 (by omega)
  have HA : Hid _ := ih
  have HT : Hid _ := Pl.take_half ss h2
  have HB : Hid (∀ w, Row w (some ⟨b, o, none⟩) ss → Calls Tryz.prog 60 #[.slice (some ⟨b, o, none⟩) (Pl.half ss.length) cap] w fun e w' => e = .returned (.string (Pl.root (ss.take (Pl.half ss.length)))) ∧ Below w.heap.size w w') := by
    intro w hr
    have := root_any ss.length (some ⟨b, o, none⟩) cap (ss.take (Pl.half ss.length)) w (by rw [HT.out]; omega) (by rw [HT.out]; omega) (by rw [HT.out]; omega) hcm (hr.take _)
    rwa [HT.out] at this
  have HE : Hid _ := Pl.path_right ss i h2 hi
  have HL : Hid _ := Pl.path_length ss.length (ss.drop (Pl.half ss.length)) (i - Pl.half ss.length) (by rw [List.length_drop]; omega)
  have HR : Hid _ := hr
  have hne : ((ss.length : Int) == 1) = false := beq_eq_false_iff_ne.2 (by omega)
  clear hr ih
  generalize Pl.half ss.length = k at *
  have hPl : (Pl.path (ss.drop k) (i - k)).length ≤ 40 := by have := HL.out; rw [List.length_drop] at this; omega
  have hkc : k ≤ cap := by omega
  have hkl : k ≤ ss.length := by omega
  have hkn : ¬ cap = k := by omega
  have hwr : IntKind.i64.wrap ((i : Int) - (k : Int)) = (i : Int) - (k : Int) := by rw [IntKind.wrap_i64]; omega
  generalize Pl.path (ss.drop k) (i - k) = P1 at *
  generalize Pl.root (ss.take k) = r1 at *
  go_enter Tryz.func47, Tryz.ntmps47
  go_wp2_with fail
  refine (HS.out _).mono ?_
  rintro e w1 ⟨rfl, rfl⟩
  go_wp2_with fail
  go_region_law (first
    | (refine step_append_own rfl (.tmp 32) (.tmp 37) 32 rfl w1.heap.size 9 i0 (.string ByteArray.empty) 1 16 Tryz.underlying32 hinf hz0 hz1 hz2 rfl (by decide) v2 _ _ rfl (ho3.alloc _) ⟨w3.heap.size, 0, none⟩ 1 1 [.string r1] rfl rfl (cell_one_new _ _ _) one_cell (by unfold maxLen; omega) (by omega) (by simp; omega) ?_; intro v4 w4 ho4 hg4)
    | (go_simp; go_at_call 47; refine (HA.out _ ?_).mono ?_; exact HR.out.drew; rintro e w2 ⟨v2, rfl, ho2, hb2⟩)
    | (go_simp; go_at_call 60; refine (HB.out _ ?_).mono ?_; exact HR.out.drew.grow hb2 (Nat.le_refl _); rintro e w3 ⟨rfl, hb3⟩; have ho3 := ho2.grow hb3; have hs2 : w1.heap.size ≤ w2.heap.size := hb2.size; have hs3 := hb3.size))
  all_goals
    go_wp2_with fail
    go_ret
    have k3 : Below w1.heap.size w1 w3 := ((Below.refl w1.heap.size w1).drew.trans hb2).trans (hb3.mono hs2)
    have R := own_step k3 (by omega) ho3 _ ho4 hg4
    exact ⟨_, rfl, by rw [HE.out]; exact R.1, R.2⟩

theorem lpath_any : ∀ (n b o cap : Nat) (ss : List ByteArray) (i : Nat) (w : World), ss.length ≤ n → ss.length ≤ 40 → ss.length ≤ cap → cap ≤ 9223372036854775807 → Row w (some ⟨b, o, none⟩) ss → i < ss.length →
    Calls Tryz.prog 47 #[.slice (some ⟨b, o, none⟩) ss.length cap, .int .i64 i] w fun e w' => ∃ v, e = .returned v ∧ Own w' w.heap.size v (Pl.path ss i) ∧ Below w.heap.size w w' := by
  intro n
  induction n with
  | zero => intro b o cap ss i w h _ _ _ _ hi; omega
  | succ n ih =>
    intro b o cap ss i w h h40 hc hm hr hi
    by_cases h1 : ss.length = 1
    · rw [h1, Pl.path_one ss i (by omega)]
      exact (lpath_one _ cap i w).mono fun e w' ⟨v, h1, h2, h3, _⟩ => ⟨v, h1, h2, h3⟩
    · have hp := Pl.half_pos ss.length
      have hl := Pl.half_lt ss.length (by omega)
      have e1 := Pl.take_half ss (by omega)
      have e2 := Pl.drop_half ss
      by_cases h2 : i < Pl.half ss.length
      · refine lpath_left b o cap ss i w (by omega) h40 hc hm hr h2 fun w hr => ?_
        have := ih b o cap (ss.take (Pl.half ss.length)) i w (by omega) (by omega) (by omega) hm (hr.take _) (by omega)
        rwa [e1] at this
      · refine lpath_right b o cap ss i w (by omega) h40 hc hm hr h2 hi fun w hr => ?_
        have := ih b (o + Pl.half ss.length) (cap - Pl.half ss.length) (ss.drop (Pl.half ss.length)) (i - Pl.half ss.length) w (by omega) (by omega) (by omega) (by omega) (hr.drop _) (by omega)
        rwa [e2, show ((i - Pl.half ss.length : Nat) : Int) = (i : Int) - (Pl.half ss.length : Int) by omega] at this

end Go.Proofs.YtkhnjipjbhcgdaaGreat
