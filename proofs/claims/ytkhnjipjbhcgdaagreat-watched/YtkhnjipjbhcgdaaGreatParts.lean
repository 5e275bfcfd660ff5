import Derived.Test.YtkhnjipjbhcgdaaGreatPath
/-
  THE WALKS of tree.parts and tree.GrowthPath.
-/
namespace Go.Proofs.YtkhnjipjbhcgdaaGreat
open Go.RowKit

theorem beq_self_int (n : Int) : (n == n) = true := beq_self_eq_true n

set_option maxRecDepth 100000 in
set_option maxHeartbeats 400000 in
theorem tparts_whole (p : Option Addr) (n cap : Nat) (w : World) :
    Calls Tryz.prog 62 #[.slice p n cap, .int .i64 n, .bool true] w fun e w' => ∃ v, e = .returned v ∧ Own w' w.heap.size v [] ∧ Below w.heap.size w w' := by
  have hq := beq_self_int n
  go_enter Tryz.func62, Tryz.ntmps62
  go_wp2_with fail
  go_ret
  exact ⟨_, rfl, own_nil _ _, Below.refl _ _⟩

theorem own_lit {w w2 : World} (hb : Below w.heap.size w w2) (r : ByteArray) : Own (w2.alloc (.cells #[.string r] 9)) w.heap.size (.slice (some ⟨w2.heap.size, 0, none⟩) 1 1) [r] :=
  ⟨rfl, Or.inr ⟨w2.heap.size, 1, _, rfl, hb.size, heap_alloc_new w2 _, Nat.le_refl _, by decide, rfl, rfl⟩⟩

set_option maxRecDepth 100000 in
set_option maxHeartbeats 400000 in
theorem tparts_root (p : Option Addr) (cap : Nat) (ss : List ByteArray) (w : World) (h40 : ss.length ≤ 40) (hcap : ss.length ≤ cap) (hcm : cap ≤ 9223372036854775807) (hr : Row w p ss) :
    Calls Tryz.prog 62 #[.slice p ss.length cap, .int .i64 ss.length, .bool false] w fun e w' => ∃ v, e = .returned v ∧ Own w' w.heap.size v [Pl.root ss] ∧ Below w.heap.size w w' := by
  have hq := beq_self_int ss.length
  go_enter Tryz.func62, Tryz.ntmps62
  go_wp2_with fail
  refine (root_any ss.length p cap ss _ (Nat.le_refl _) h40 hcap hcm hr).mono ?_
  rintro e w2 ⟨rfl, hb⟩
  go_wp2_with fail
  go_ret
  exact ⟨_, rfl, own_lit hb _, hb.alloc hb.size _⟩

set_option maxRecDepth 100000 in
set_option maxHeartbeats 1000000 in
theorem tparts_left (b o cap : Nat) (ss : List ByteArray) (i : Nat) (q : Bool) (w : World) (h2 : 2 ≤ ss.length) (h1 : 1 ≤ i) (hlt : i < ss.length) (h40 : ss.length ≤ 40) (hcap : ss.length ≤ cap) (hcm : cap ≤ 9223372036854775807) (hr : Row w (some ⟨b, o, none⟩) ss) (hi : i ≤ Pl.half ss.length)
    (ih : ∀ w, Row w (some ⟨b, o, none⟩) ss → Calls Tryz.prog 62 #[.slice (some ⟨b, o, none⟩) (Pl.half ss.length) cap, .int .i64 i, .bool q] w fun e w' => ∃ v, e = .returned v ∧ Own w' w.heap.size v (Pl.parts (ss.take (Pl.half ss.length)) i q) ∧ Below w.heap.size w w') :
    Calls Tryz.prog 62 #[.slice (some ⟨b, o, none⟩) ss.length cap, .int .i64 i, .bool q] w fun e w' => ∃ v, e = .returned v ∧ Own w' w.heap.size v (Pl.parts ss i q) ∧ Below w.heap.size w w' := by
  obtain ⟨i0, hinf, hz0, hz1, hz2⟩ := info_parts infoStr
  have hp := Pl.half_pos ss.length
  have hl := Pl.half_lt ss.length h2
  have e2 : (ss.drop (Pl.half ss.length)).length = ss.length - Pl.half ss.length := by rw [List.length_drop]
  have HS : Hid _ := fun w => split_any ss.length w h2 (by omega)
  have HA : Hid _ := ih
  have HB : Hid (∀ w, Row w (some ⟨b, o, none⟩) ss → Calls Tryz.prog 60 #[.slice (some ⟨b, o + Pl.half ss.length, none⟩) (ss.length - Pl.half ss.length) (cap - Pl.half ss.length)] w fun e w' => e = .returned (.string (Pl.root (ss.drop (Pl.half ss.length)))) ∧ Below w.heap.size w w') := by
    intro w hr
    have := root_any ss.length (some ⟨b, o + Pl.half ss.length, none⟩) (cap - Pl.half ss.length) (ss.drop (Pl.half ss.length)) w (by omega) (by omega) (by omega) (by omega) (hr.drop _)
    rwa [e2] at this
  have HE : Hid _ := Pl.parts_left ss i q h1 hlt hi
  have HL : Hid _ := Pl.parts_length ss.length (ss.take (Pl.half ss.length)) i q (by rw [Pl.take_half ss h2]; omega) h1 (by rw [Pl.take_half ss h2]; exact hi)
  have HT : Hid _ := Pl.take_half ss h2
  have HR : Hid _ := hr
  have hne : ((i : Int) == (ss.length : Int)) = false := beq_eq_false_iff_ne.2 (by omega)
  clear hr ih e2
  generalize Pl.half ss.length = k at *
  have hPl : (Pl.parts (ss.take k) i q).length ≤ 40 := by have := HL.out; rw [HT.out] at this; omega
  have hkc : k ≤ cap := by omega
  have hkl : k ≤ ss.length := by omega
  have hkn : ¬ cap = k := by omega
  generalize Pl.parts (ss.take k) i q = P1 at *
  generalize Pl.root (ss.drop k) = r1 at *
  go_enter Tryz.func62, Tryz.ntmps62
  go_wp2_with fail
  refine (HS.out _).mono ?_
  rintro e w1 ⟨rfl, rfl⟩
  go_wp2_with fail
  go_region_law (first
    | (refine step_append_own rfl (.tmp 27) (.tmp 32) 32 rfl w1.heap.size 9 i0 (.string ByteArray.empty) 1 16 Tryz.underlying32 hinf hz0 hz1 hz2 rfl (by decide) v2 _ _ rfl (ho3.alloc _) ⟨w3.heap.size, 0, none⟩ 1 1 [.string r1] rfl rfl (cell_one_new _ _ _) one_cell (by unfold maxLen; omega) (by omega) (by simp; omega) ?_; intro v4 w4 ho4 hg4)
    | (go_simp; go_at_call 62; refine (HA.out _ ?_).mono ?_; exact HR.out.drew; rintro e w2 ⟨v2, rfl, ho2, hb2⟩)
    | (go_simp; go_at_call 60; refine (HB.out _ ?_).mono ?_; exact HR.out.drew.grow hb2 (Nat.le_refl _); rintro e w3 ⟨rfl, hb3⟩; have ho3 := ho2.grow hb3; have hs2 : w1.heap.size ≤ w2.heap.size := hb2.size; have hs3 := hb3.size))
  all_goals
    go_wp2_with fail
    go_ret
    have k3 : Below w1.heap.size w1 w3 := ((Below.refl w1.heap.size w1).drew.trans hb2).trans (hb3.mono hs2)
    have R := own_step k3 (by omega) ho3 _ ho4 hg4
    exact ⟨_, rfl, by rw [HE.out]; exact R.1, R.2⟩

set_option maxRecDepth 100000 in
set_option maxHeartbeats 1000000 in
theorem tparts_right (b o cap : Nat) (ss : List ByteArray) (i : Nat) (q : Bool) (w : World) (h2 : 2 ≤ ss.length) (h40 : ss.length ≤ 40) (hcap : ss.length ≤ cap) (hcm : cap ≤ 9223372036854775807) (hr : Row w (some ⟨b, o, none⟩) ss) (hi : ¬ i ≤ Pl.half ss.length) (hil : i < ss.length)
    (ih : ∀ w, Row w (some ⟨b, o, none⟩) ss → Calls Tryz.prog 62 #[.slice (some ⟨b, o + Pl.half ss.length, none⟩) (ss.length - Pl.half ss.length) (cap - Pl.half ss.length), .int .i64 ((i : Int) - (Pl.half ss.length : Int)), .bool false] w fun e w' => ∃ v, e = .returned v ∧ Own w' w.heap.size v (Pl.parts (ss.drop (Pl.half ss.length)) (i - Pl.half ss.length) false) ∧ Below w.heap.size w w') :
    Calls Tryz.prog 62 #[.slice (some ⟨b, o, none⟩) ss.length cap, .int .i64 i, .bool q] w fun e w' => ∃ v, e = .returned v ∧ Own w' w.heap.size v (Pl.parts ss i q) ∧ Below w.heap.size w w' := by
  obtain ⟨i0, hinf, hz0, hz1, hz2⟩ := info_parts infoStr
  have hp := Pl.half_pos ss.length
  have hl := Pl.half_lt ss.length h2
  have HS : Hid _ := fun w => split_any ss.length w h2 (by omega)
  have HA : Hid _ := ih
  have HT : Hid _ := Pl.take_half ss h2
  have HB : Hid (∀ w, Row w (some ⟨b, o, none⟩) ss → Calls Tryz.prog 60 #[.slice (some ⟨b, o, none⟩) (Pl.half ss.length) cap] w fun e w' => e = .returned (.string (Pl.root (ss.take (Pl.half ss.length)))) ∧ Below w.heap.size w w') := by
    intro w hr
    have := root_any ss.length (some ⟨b, o, none⟩) cap (ss.take (Pl.half ss.length)) w (by rw [HT.out]; omega) (by rw [HT.out]; omega) (by rw [HT.out]; omega) hcm (hr.take _)
    rwa [HT.out] at this
  have HE : Hid _ := Pl.parts_right ss i q hil hi
  have HL : Hid _ := Pl.parts_length ss.length (ss.drop (Pl.half ss.length)) (i - Pl.half ss.length) false (by rw [List.length_drop]; omega) (by omega) (by rw [List.length_drop]; omega)
  have HR : Hid _ := hr
  have hne : ((i : Int) == (ss.length : Int)) = false := beq_eq_false_iff_ne.2 (by omega)
  clear hr ih
  generalize Pl.half ss.length = k at *
  have hPl : (Pl.parts (ss.drop k) (i - k) false).length ≤ 40 := by have := HL.out; rw [List.length_drop] at this; omega
  have hkc : k ≤ cap := by omega
  have hkl : k ≤ ss.length := by omega
  have hkn : ¬ cap = k := by omega
  have hwr : IntKind.i64.wrap ((i : Int) - (k : Int)) = (i : Int) - (k : Int) := by rw [IntKind.wrap_i64]; omega
  generalize Pl.parts (ss.drop k) (i - k) false = P1 at *
  generalize Pl.root (ss.take k) = r1 at *
  go_enter Tryz.func62, Tryz.ntmps62
  go_wp2_with fail
  refine (HS.out _).mono ?_
  rintro e w1 ⟨rfl, rfl⟩
  go_wp2_with fail
  go_region_law (first
    | (refine step_append_own rfl (.tmp 40) (.tmp 45) 32 rfl w1.heap.size 9 i0 (.string ByteArray.empty) 1 16 Tryz.underlying32 hinf hz0 hz1 hz2 rfl (by decide) v2 _ _ rfl (ho3.alloc _) ⟨w3.heap.size, 0, none⟩ 1 1 [.string r1] rfl rfl (cell_one_new _ _ _) one_cell (by unfold maxLen; omega) (by omega) (by simp; omega) ?_; intro v4 w4 ho4 hg4)
    | (go_simp; go_at_call 62; refine (HA.out _ ?_).mono ?_; exact HR.out.drew; rintro e w2 ⟨v2, rfl, ho2, hb2⟩)
    | (go_simp; go_at_call 60; refine (HB.out _ ?_).mono ?_; exact HR.out.drew.grow hb2 (Nat.le_refl _); rintro e w3 ⟨rfl, hb3⟩; have ho3 := ho2.grow hb3; have hs2 : w1.heap.size ≤ w2.heap.size := hb2.size; have hs3 := hb3.size))
  all_goals
    go_wp2_with fail
    go_ret
    have k3 : Below w1.heap.size w1 w3 := ((Below.refl w1.heap.size w1).drew.trans hb2).trans (hb3.mono hs2)
    have R := own_step k3 (by omega) ho3 _ ho4 hg4
    exact ⟨_, rfl, by rw [HE.out]; exact R.1, R.2⟩

theorem tparts_any : ∀ (n b o cap : Nat) (ss : List ByteArray) (i : Nat) (q : Bool) (w : World), ss.length ≤ n → ss.length ≤ 40 → ss.length ≤ cap → cap ≤ 9223372036854775807 → Row w (some ⟨b, o, none⟩) ss → 1 ≤ i → i ≤ ss.length →
    Calls Tryz.prog 62 #[.slice (some ⟨b, o, none⟩) ss.length cap, .int .i64 i, .bool q] w fun e w' => ∃ v, e = .returned v ∧ Own w' w.heap.size v (Pl.parts ss i q) ∧ Below w.heap.size w w' := by
  intro n
  induction n with
  | zero => intro b o cap ss i q w h _ _ _ _ hi hi2; omega
  | succ n ih =>
    intro b o cap ss i q w h h40 hc hm hr hi hi2
    by_cases h1 : i = ss.length
    · cases q with
      | true => rw [Pl.parts_whole ss i hi h1, h1]; exact tparts_whole _ _ cap w
      | false => rw [Pl.parts_root ss i hi h1, h1]; exact tparts_root _ cap ss w h40 hc hm hr
    · have hp := Pl.half_pos ss.length
      have hl := Pl.half_lt ss.length (by omega)
      have e1 := Pl.take_half ss (by omega)
      have e2 := Pl.drop_half ss
      by_cases h2 : i ≤ Pl.half ss.length
      · refine tparts_left b o cap ss i q w (by omega) hi (by omega) h40 hc hm hr h2 fun w hr => ?_
        have := ih b o cap (ss.take (Pl.half ss.length)) i q w (by omega) (by omega) (by omega) hm (hr.take _) hi (by omega)
        rwa [e1] at this
      · refine tparts_right b o cap ss i q w (by omega) h40 hc hm hr h2 (by omega) fun w hr => ?_
        have := ih b (o + Pl.half ss.length) (cap - Pl.half ss.length) (ss.drop (Pl.half ss.length)) (i - Pl.half ss.length) false w (by omega) (by omega) (by omega) (by omega) (hr.drop _) (by omega) (by omega)
        rwa [e2, show ((i - Pl.half ss.length : Nat) : Int) = (i : Int) - (Pl.half ss.length : Int) by omega] at this

set_option maxRecDepth 100000 in
set_option maxHeartbeats 400000 in
theorem growth_any (b o cap : Nat) (ss : List ByteArray) (i : Nat) (w : World) (h40 : ss.length ≤ 40) (hcap : ss.length ≤ cap) (hcm : cap ≤ 9223372036854775807) (hr : Row w (some ⟨b, o, none⟩) ss) (h1 : 1 ≤ i) (h2 : i ≤ ss.length) :
    Calls Tryz.prog 49 #[.slice (some ⟨b, o, none⟩) ss.length cap, .int .i64 i] w fun e w' => ∃ v, e = .returned v ∧ Own w' w.heap.size v (Pl.parts ss i true) ∧ Below w.heap.size w w' := by
  go_enter Tryz.func49, Tryz.ntmps49
  go_wp2_with fail
  refine (tparts_any ss.length b o cap ss i true _ (Nat.le_refl _) h40 hcap hcm hr h1 h2).mono ?_
  rintro e w2 ⟨v, rfl, ho, hb⟩
  go_wp2_with fail
  go_ret
  exact ⟨_, rfl, ho, hb⟩

end Go.Proofs.YtkhnjipjbhcgdaaGreat
