import Derived.Test.YtkhnjipjbhcgdaaGreatParts
import Derived.Laws.AppendOwnNone
/-
  THE WALKS of treeheadref.with, treeheadref.path, treeheadref.parts.
-/
namespace Go.Proofs.YtkhnjipjbhcgdaaGreat
open Go.RowKit

set_option maxRecDepth 100000 in
set_option maxHeartbeats 1000000 in
theorem with_nil (s : ByteArray) (w : World) :
    Calls Tryz.prog 61 #[.slice none 0 0, .string s] w fun e w' => ∃ v, e = .returned v ∧ Own w' w.heap.size v ([] ++ [s]) ∧ Below w.heap.size w w' := by
  obtain ⟨i0, hinf, hz0, hz1, hz2⟩ := info_parts infoStr
  go_enter Tryz.func61, Tryz.ntmps61
  go_wp2_with (first
    | (at_builtin; refine wpList_append_own_none rfl (.tmp 6) (.tmp 7) 32 rfl w.heap.size 9 i0 1 Tryz.underlying32 hinf _ 0 [] rfl (World.ownsRow_nil _ _ _ _) rfl ?_)
    | (at_builtin; refine wpList_append_own _ rfl (.tmp 9) (.tmp 11) 32 rfl w.heap.size 9 i0 (.string ByteArray.empty) 1 16 Tryz.underlying32 hinf hz0 hz1 hz2 rfl (by decide) (.slice none 0 0) 0 [] rfl (World.ownsRow_nil _ _ _ _) ⟨w.heap.size, 0, none⟩ 1 1 [.string s] rfl rfl (cell_one_new _ _ _) one_cell (by decide) (by decide) (by simp) ?_; intro v4 w4 ho4 hg4 _))
  go_ret
  have R := own_step (Below.refl w.heap.size w) (Nat.le_refl _) (own_nil w w.heap.size) _ ho4 hg4
  exact ⟨_, rfl, R.1, R.2⟩

set_option maxRecDepth 100000 in
set_option maxHeartbeats 1000000 in
theorem with_some (g cap B : Nat) (ss : List ByteArray) (s : ByteArray) (w : World) (h : Own w B (.slice (some ⟨g, 0, none⟩) ss.length cap) ss) (h40 : ss.length ≤ 40) :
    Calls Tryz.prog 61 #[.slice (some ⟨g, 0, none⟩) ss.length cap, .string s] w fun e w' => ∃ v, e = .returned v ∧ Own w' w.heap.size v (ss ++ [s]) ∧ Below w.heap.size w w' := by
  obtain ⟨i0, hinf, hz0, hz1, hz2⟩ := info_parts infoStr
  have hcells : ∀ j u, (ss.map Value.string)[j]? = some u → w.cell? ((⟨g, 0, none⟩ : Addr).add j) = some u := World.ownsRow.cells h (g := g) rfl
  have hone : ∀ u ∈ ss.map Value.string, u.oneCell' = true := by
    intro u hu
    obtain ⟨x, _, rfl⟩ := List.mem_map.1 hu
    rfl
  have HC : Hid _ := hcells
  have HO : Hid _ := hone
  clear hcells hone h
  go_enter Tryz.func61, Tryz.ntmps61
  go_wp2_with (first
    | (at_builtin; refine wpList_append_own _ rfl (.tmp 6) (.tmp 7) 32 rfl w.heap.size 9 i0 (.string ByteArray.empty) 1 16 Tryz.underlying32 hinf hz0 hz1 hz2 rfl (by decide) (.slice none 0 0) 0 [] rfl (World.ownsRow_nil _ _ _ _) ⟨g, 0, none⟩ ss.length cap (ss.map Value.string) rfl (by simp) HC.out HO.out (by unfold maxLen; omega) (by omega) (Nat.le_refl _) ?_; intro v2 w2 ho2 hg2 _)
    | (at_builtin; refine wpList_append_own _ rfl (.tmp 9) (.tmp 11) 32 rfl w.heap.size 9 i0 (.string ByteArray.empty) 1 16 Tryz.underlying32 hinf hz0 hz1 hz2 rfl (by decide) v2 (0 + ss.length) ([] ++ ss.map Value.string) rfl (ho2.alloc _) ⟨w2.heap.size, 0, none⟩ 1 1 [.string s] rfl rfl (cell_one_new _ _ _) one_cell (by unfold maxLen; omega) (by omega) (by have := hg2.size; simp; omega) ?_; intro v4 w4 ho4 hg4 _))
  go_ret
  have hb2 : Below w.heap.size w w2 := (Below.refl w.heap.size w).grown hg2 (Nat.le_refl _) (fun k hk => by cases hk)
  have ho2' : Own w2 w.heap.size v2 ss := by
    unfold Own
    simpa using ho2
  rw [Nat.zero_add, List.nil_append] at ho4
  have R := own_step hb2 hb2.size ho2' _ ho4 hg4
  exact ⟨_, rfl, R.1, R.2⟩

theorem with_any (v : Value) (B : Nat) (ss : List ByteArray) (s : ByteArray) (w : World) (h : Own w B v ss) (h40 : ss.length ≤ 40) :
    Calls Tryz.prog 61 #[v, .string s] w fun e w' => ∃ v', e = .returned v' ∧ Own w' w.heap.size v' (ss ++ [s]) ∧ Below w.heap.size w w' := by
  rcases h.2 with ⟨rfl, h0⟩ | ⟨g, cap, cur, rfl, _⟩
  · obtain rfl : ss = [] := List.eq_nil_of_length_eq_zero h0
    exact with_nil s w
  · exact with_some g cap B ss s w h h40

theorem own_len {w : World} {B : Nat} {v : Value} {ss : List ByteArray} (h : Own w B v ss) : ∃ p cap, v = .slice p ss.length cap := by
  rcases h.2 with ⟨hv, h0⟩ | ⟨g, cap, cur, hv, _⟩
  · exact ⟨none, 0, by rw [hv, h0]⟩
  · exact ⟨_, cap, hv⟩
theorem Own.mono {w : World} {B B' : Nat} {v : Value} {ss : List ByteArray} (h : Own w B v ss) (hB : B' ≤ B) : Own w B' v ss := by
  refine ⟨h.1, ?_⟩
  rcases h.2 with hn | ⟨g, cap, cur, rfl, hb, rest⟩
  · exact Or.inl hn
  · exact Or.inr ⟨g, cap, cur, rfl, Nat.le_trans hB hb, rest⟩

set_option maxRecDepth 100000 in
set_option maxHeartbeats 400000 in
theorem rpath_one (p : Option Addr) (cap : Nat) (c : Int) (w : World) :
    Calls Tryz.prog 48 #[.slice p 1 cap, .int .i64 c] w fun e w' => ∃ v, e = .returned v ∧ Own w' w.heap.size v [] ∧ Below w.heap.size w w' := by
  go_enter Tryz.func48, Tryz.ntmps48
  go_wp2_with fail
  go_ret
  exact ⟨_, rfl, own_nil _ _, Below.refl _ _⟩

set_option maxRecDepth 100000 in
set_option maxHeartbeats 1000000 in
theorem rpath_left (b o cap : Nat) (ss : List ByteArray) (i : Nat) (w : World) (h2 : 2 ≤ ss.length) (h40 : ss.length ≤ 40) (h30 : ∀ s ∈ ss, s.size ≤ 30) (hcap : ss.length ≤ cap) (hcm : cap ≤ 9223372036854775807) (hr : Row w (some ⟨b, o, none⟩) ss) (hi : i < Pl.half ss.length)
    (ih : ∀ w, Row w (some ⟨b, o, none⟩) ss → Calls Tryz.prog 48 #[.slice (some ⟨b, o, none⟩) (Pl.half ss.length) cap, .int .i64 i] w fun e w' => ∃ v, e = .returned v ∧ Own w' w.heap.size v (Pl.path (ss.take (Pl.half ss.length)) i) ∧ Below w.heap.size w w') :
    Calls Tryz.prog 48 #[.slice (some ⟨b, o, none⟩) ss.length cap, .int .i64 i] w fun e w' => ∃ v, e = .returned v ∧ Own w' w.heap.size v (Pl.path ss i) ∧ Below w.heap.size w w' := by
  have hp := Pl.half_pos ss.length
  have hl := Pl.half_lt ss.length h2
  have e2 : (ss.drop (Pl.half ss.length)).length = ss.length - Pl.half ss.length := by rw [List.length_drop]
  have HS : Hid _ := fun w => below_any ss.length w h2 (by omega)
  have HA : Hid _ := ih
  have HB : Hid (∀ w, Row w (some ⟨b, o, none⟩) ss → Calls Tryz.prog 13 #[.slice (some ⟨b, o + Pl.half ss.length, none⟩) (ss.length - Pl.half ss.length) (cap - Pl.half ss.length)] w fun e w' => e = .returned (.string (Pl.root (ss.drop (Pl.half ss.length)))) ∧ Below w.heap.size w w') := by
    intro w hr
    have := rroot_any ss.length (some ⟨b, o + Pl.half ss.length, none⟩) (cap - Pl.half ss.length) (ss.drop (Pl.half ss.length)) w (by omega) (by omega) (by omega) (by omega) (hr.drop _) (fun s hs => h30 s (List.mem_of_mem_drop hs))
    rwa [e2] at this
  have HE : Hid _ := Pl.path_left ss i h2 hi
  have HL : Hid _ := Pl.path_length ss.length (ss.take (Pl.half ss.length)) i (by rw [Pl.take_half ss h2]; omega)
  have HT : Hid _ := Pl.take_half ss h2
  have HR : Hid _ := hr
  have hne : ((ss.length : Int) == 1) = false := beq_eq_false_iff_ne.2 (by omega)
  clear hr ih e2 h30
  generalize Pl.half ss.length = k at *
  have hPl : (Pl.path (ss.take k) i).length ≤ 40 := by have := HL.out; rw [HT.out] at this; omega
  generalize Pl.path (ss.take k) i = P1 at *
  generalize Pl.root (ss.drop k) = r1 at *
  go_enter Tryz.func48, Tryz.ntmps48
  go_wp2_with fail
  refine (HS.out _).mono ?_
  rintro e w1 ⟨rfl, rfl⟩
  go_wp2_with fail
  refine (HA.out _ HR.out).mono ?_
  rintro e w2 ⟨v2, rfl, ho2, hb2⟩
  have HO2 : Hid (Own w2 w1.heap.size v2 P1) := ho2
  clear ho2
  go_wp2_with fail
  refine (HB.out _ (HR.out.grow hb2 (Nat.le_refl _))).mono ?_
  rintro e w3 ⟨rfl, hb3⟩
  go_wp2_with fail
  refine (with_any v2 _ P1 r1 _ (HO2.out.grow hb3) hPl).mono ?_
  rintro e w4 ⟨v4, rfl, ho4, hb4⟩
  have HO4 : Hid (Own w4 w3.heap.size v4 (P1 ++ [r1])) := ho4
  clear ho4
  go_wp2_with fail
  go_ret
  have k3 := hb2.trans (hb3.mono hb2.size)
  exact ⟨_, rfl, by rw [HE.out]; exact HO4.out.mono k3.size, k3.trans (hb4.mono k3.size)⟩

set_option maxRecDepth 100000 in
set_option maxHeartbeats 1000000 in
theorem rpath_right (b o cap : Nat) (ss : List ByteArray) (i : Nat) (w : World) (h2 : 2 ≤ ss.length) (h40 : ss.length ≤ 40) (h30 : ∀ s ∈ ss, s.size ≤ 30) (hcap : ss.length ≤ cap) (hcm : cap ≤ 9223372036854775807) (hr : Row w (some ⟨b, o, none⟩) ss) (hi : ¬ i < Pl.half ss.length) (hil : i < ss.length)
    (ih : ∀ w, Row w (some ⟨b, o, none⟩) ss → Calls Tryz.prog 48 #[.slice (some ⟨b, o + Pl.half ss.length, none⟩) (ss.length - Pl.half ss.length) (cap - Pl.half ss.length), .int .i64 ((i : Int) - (Pl.half ss.length : Int))] w fun e w' => ∃ v, e = .returned v ∧ Own w' w.heap.size v (Pl.path (ss.drop (Pl.half ss.length)) (i - Pl.half ss.length)) ∧ Below w.heap.size w w') :
    Calls Tryz.prog 48 #[.slice (some ⟨b, o, none⟩) ss.length cap, .int .i64 i] w fun e w' => ∃ v, e = .returned v ∧ Own w' w.heap.size v (Pl.path ss i) ∧ Below w.heap.size w w' := by
  have hp := Pl.half_pos ss.length
  have hl := Pl.half_lt ss.length h2
  have HS : Hid _ := fun w => below_any ss.length w h2 (by omega)
  have HA : Hid _ := ih
  have HT : Hid _ := Pl.take_half ss h2
  have HB : Hid (∀ w, Row w (some ⟨b, o, none⟩) ss → Calls Tryz.prog 13 #[.slice (some ⟨b, o, none⟩) (Pl.half ss.length) cap] w fun e w' => e = .returned (.string (Pl.root (ss.take (Pl.half ss.length)))) ∧ Below w.heap.size w w') := by
    intro w hr
    have := rroot_any ss.length (some ⟨b, o, none⟩) cap (ss.take (Pl.half ss.length)) w (by rw [HT.out]; omega) (by rw [HT.out]; omega) (by rw [HT.out]; omega) hcm (hr.take _) (fun s hs => h30 s (List.mem_of_mem_take hs))
    rwa [HT.out] at this
  have HE : Hid _ := Pl.path_right ss i h2 hi
  have HL : Hid _ := Pl.path_length ss.length (ss.drop (Pl.half ss.length)) (i - Pl.half ss.length) (by rw [List.length_drop]; omega)
  have HR : Hid _ := hr
  have hne : ((ss.length : Int) == 1) = false := beq_eq_false_iff_ne.2 (by omega)
  clear hr ih h30
  generalize Pl.half ss.length = k at *
  have hPl : (Pl.path (ss.drop k) (i - k)).length ≤ 40 := by have := HL.out; rw [List.length_drop] at this; omega
  generalize Pl.path (ss.drop k) (i - k) = P1 at *
  generalize Pl.root (ss.take k) = r1 at *
  go_enter Tryz.func48, Tryz.ntmps48
  go_wp2_with fail
  refine (HS.out _).mono ?_
  rintro e w1 ⟨rfl, rfl⟩
  go_wp2_with fail
  refine (HA.out _ HR.out).mono ?_
  rintro e w2 ⟨v2, rfl, ho2, hb2⟩
  have HO2 : Hid (Own w2 w1.heap.size v2 P1) := ho2
  clear ho2
  go_wp2_with fail
  refine (HB.out _ (HR.out.grow hb2 (Nat.le_refl _))).mono ?_
  rintro e w3 ⟨rfl, hb3⟩
  go_wp2_with fail
  refine (with_any v2 _ P1 r1 _ (HO2.out.grow hb3) hPl).mono ?_
  rintro e w4 ⟨v4, rfl, ho4, hb4⟩
  have HO4 : Hid (Own w4 w3.heap.size v4 (P1 ++ [r1])) := ho4
  clear ho4
  go_wp2_with fail
  go_ret
  have k3 := hb2.trans (hb3.mono hb2.size)
  exact ⟨_, rfl, by rw [HE.out]; exact HO4.out.mono k3.size, k3.trans (hb4.mono k3.size)⟩

theorem rpath_any : ∀ (n b o cap : Nat) (ss : List ByteArray) (i : Nat) (w : World), ss.length ≤ n → ss.length ≤ 40 → (∀ s ∈ ss, s.size ≤ 30) → ss.length ≤ cap → cap ≤ 9223372036854775807 → Row w (some ⟨b, o, none⟩) ss → i < ss.length →
    Calls Tryz.prog 48 #[.slice (some ⟨b, o, none⟩) ss.length cap, .int .i64 i] w fun e w' => ∃ v, e = .returned v ∧ Own w' w.heap.size v (Pl.path ss i) ∧ Below w.heap.size w w' := by
  intro n
  induction n with
  | zero => intro b o cap ss i w h _ _ _ _ _ hi; omega
  | succ n ih =>
    intro b o cap ss i w h h40 h30 hc hm hr hi
    by_cases h1 : ss.length = 1
    · rw [h1, Pl.path_one ss i (by omega)]
      exact rpath_one _ cap i w
    · have hp := Pl.half_pos ss.length
      have hl := Pl.half_lt ss.length (by omega)
      have e1 := Pl.take_half ss (by omega)
      have e2 := Pl.drop_half ss
      by_cases h2 : i < Pl.half ss.length
      · refine rpath_left b o cap ss i w (by omega) h40 h30 hc hm hr h2 fun w hr => ?_
        have := ih b o cap (ss.take (Pl.half ss.length)) i w (by omega) (by omega) (fun s hs => h30 s (List.mem_of_mem_take hs)) (by omega) hm (hr.take _) (by omega)
        rwa [e1] at this
      · refine rpath_right b o cap ss i w (by omega) h40 h30 hc hm hr h2 hi fun w hr => ?_
        have := ih b (o + Pl.half ss.length) (cap - Pl.half ss.length) (ss.drop (Pl.half ss.length)) (i - Pl.half ss.length) w (by omega) (by omega) (fun s hs => h30 s (List.mem_of_mem_drop hs)) (by omega) (by omega) (hr.drop _) (by omega)
        rwa [e2, show ((i - Pl.half ss.length : Nat) : Int) = (i : Int) - (Pl.half ss.length : Int) by omega] at this

set_option maxRecDepth 100000 in
set_option maxHeartbeats 400000 in
theorem rparts_whole (p : Option Addr) (n cap : Nat) (w : World) :
    Calls Tryz.prog 50 #[.slice p n cap, .int .i64 n, .bool true] w fun e w' => ∃ v, e = .returned v ∧ Own w' w.heap.size v [] ∧ Below w.heap.size w w' := by
  have hq := beq_self_int n
  go_enter Tryz.func50, Tryz.ntmps50
  go_wp2_with fail
  go_ret
  exact ⟨_, rfl, own_nil _ _, Below.refl _ _⟩

set_option maxRecDepth 100000 in
set_option maxHeartbeats 400000 in
theorem rparts_root (p : Option Addr) (cap : Nat) (ss : List ByteArray) (w : World) (h40 : ss.length ≤ 40) (h30 : ∀ s ∈ ss, s.size ≤ 30) (hcap : ss.length ≤ cap) (hcm : cap ≤ 9223372036854775807) (hr : Row w p ss) :
    Calls Tryz.prog 50 #[.slice p ss.length cap, .int .i64 ss.length, .bool false] w fun e w' => ∃ v, e = .returned v ∧ Own w' w.heap.size v [Pl.root ss] ∧ Below w.heap.size w w' := by
  have hq := beq_self_int ss.length
  go_enter Tryz.func50, Tryz.ntmps50
  go_wp2_with fail
  refine (rroot_any ss.length p cap ss _ (Nat.le_refl _) h40 hcap hcm hr h30).mono ?_
  rintro e w2 ⟨rfl, hb⟩
  go_wp2_with fail
  go_ret
  exact ⟨_, rfl, own_lit hb _, hb.alloc hb.size _⟩

set_option maxRecDepth 100000 in
set_option maxHeartbeats 1000000 in
theorem rparts_left (b o cap : Nat) (ss : List ByteArray) (i : Nat) (q : Bool) (w : World) (h2 : 2 ≤ ss.length) (h1 : 1 ≤ i) (hlt : i < ss.length) (h40 : ss.length ≤ 40) (h30 : ∀ s ∈ ss, s.size ≤ 30) (hcap : ss.length ≤ cap) (hcm : cap ≤ 9223372036854775807) (hr : Row w (some ⟨b, o, none⟩) ss) (hi : i ≤ Pl.half ss.length)
    (ih : ∀ w, Row w (some ⟨b, o, none⟩) ss → Calls Tryz.prog 50 #[.slice (some ⟨b, o, none⟩) (Pl.half ss.length) cap, .int .i64 i, .bool q] w fun e w' => ∃ v, e = .returned v ∧ Own w' w.heap.size v (Pl.parts (ss.take (Pl.half ss.length)) i q) ∧ Below w.heap.size w w') :
    Calls Tryz.prog 50 #[.slice (some ⟨b, o, none⟩) ss.length cap, .int .i64 i, .bool q] w fun e w' => ∃ v, e = .returned v ∧ Own w' w.heap.size v (Pl.parts ss i q) ∧ Below w.heap.size w w' := by
  have hp := Pl.half_pos ss.length
  have hl := Pl.half_lt ss.length h2
  have e2 : (ss.drop (Pl.half ss.length)).length = ss.length - Pl.half ss.length := by rw [List.length_drop]
  have HS : Hid _ := fun w => below_any ss.length w h2 (by omega)
  have HA : Hid _ := ih
  have HB : Hid (∀ w, Row w (some ⟨b, o, none⟩) ss → Calls Tryz.prog 13 #[.slice (some ⟨b, o + Pl.half ss.length, none⟩) (ss.length - Pl.half ss.length) (cap - Pl.half ss.length)] w fun e w' => e = .returned (.string (Pl.root (ss.drop (Pl.half ss.length)))) ∧ Below w.heap.size w w') := by
    intro w hr
    have := rroot_any ss.length (some ⟨b, o + Pl.half ss.length, none⟩) (cap - Pl.half ss.length) (ss.drop (Pl.half ss.length)) w (by omega) (by omega) (by omega) (by omega) (hr.drop _) (fun s hs => h30 s (List.mem_of_mem_drop hs))
    rwa [e2] at this
  have HE : Hid _ := Pl.parts_left ss i q h1 hlt hi
  have HL : Hid _ := Pl.parts_length ss.length (ss.take (Pl.half ss.length)) i q (by rw [Pl.take_half ss h2]; omega) h1 (by rw [Pl.take_half ss h2]; exact hi)
  have HT : Hid _ := Pl.take_half ss h2
  have HR : Hid _ := hr
  have hne : ((i : Int) == (ss.length : Int)) = false := beq_eq_false_iff_ne.2 (by omega)
  clear hr ih e2 h30
  generalize Pl.half ss.length = k at *
  have hPl : (Pl.parts (ss.take k) i q).length ≤ 40 := by have := HL.out; rw [HT.out] at this; omega
  generalize Pl.parts (ss.take k) i q = P1 at *
  generalize Pl.root (ss.drop k) = r1 at *
  go_enter Tryz.func50, Tryz.ntmps50
  go_wp2_with fail
  refine (HS.out _).mono ?_
  rintro e w1 ⟨rfl, rfl⟩
  go_wp2_with fail
  refine (HA.out _ HR.out).mono ?_
  rintro e w2 ⟨v2, rfl, ho2, hb2⟩
  have HO2 : Hid (Own w2 w1.heap.size v2 P1) := ho2
  clear ho2
  go_wp2_with fail
  refine (HB.out _ (HR.out.grow hb2 (Nat.le_refl _))).mono ?_
  rintro e w3 ⟨rfl, hb3⟩
  go_wp2_with fail
  refine (with_any v2 _ P1 r1 _ (HO2.out.grow hb3) hPl).mono ?_
  rintro e w4 ⟨v4, rfl, ho4, hb4⟩
  have HO4 : Hid (Own w4 w3.heap.size v4 (P1 ++ [r1])) := ho4
  clear ho4
  go_wp2_with fail
  go_ret
  have k3 := hb2.trans (hb3.mono hb2.size)
  exact ⟨_, rfl, by rw [HE.out]; exact HO4.out.mono k3.size, k3.trans (hb4.mono k3.size)⟩

set_option maxRecDepth 100000 in
set_option maxHeartbeats 1000000 in
theorem rparts_right (b o cap : Nat) (ss : List ByteArray) (i : Nat) (q : Bool) (w : World) (h2 : 2 ≤ ss.length) (h40 : ss.length ≤ 40) (h30 : ∀ s ∈ ss, s.size ≤ 30) (hcap : ss.length ≤ cap) (hcm : cap ≤ 9223372036854775807) (hr : Row w (some ⟨b, o, none⟩) ss) (hi : ¬ i ≤ Pl.half ss.length) (hil : i < ss.length)
    (ih : ∀ w, Row w (some ⟨b, o, none⟩) ss → Calls Tryz.prog 50 #[.slice (some ⟨b, o + Pl.half ss.length, none⟩) (ss.length - Pl.half ss.length) (cap - Pl.half ss.length), .int .i64 ((i : Int) - (Pl.half ss.length : Int)), .bool false] w fun e w' => ∃ v, e = .returned v ∧ Own w' w.heap.size v (Pl.parts (ss.drop (Pl.half ss.length)) (i - Pl.half ss.length) false) ∧ Below w.heap.size w w') :
    Calls Tryz.prog 50 #[.slice (some ⟨b, o, none⟩) ss.length cap, .int .i64 i, .bool q] w fun e w' => ∃ v, e = .returned v ∧ Own w' w.heap.size v (Pl.parts ss i q) ∧ Below w.heap.size w w' := by
  have hp := Pl.half_pos ss.length
  have hl := Pl.half_lt ss.length h2
  have HS : Hid _ := fun w => below_any ss.length w h2 (by omega)
  have HA : Hid _ := ih
  have HT : Hid _ := Pl.take_half ss h2
  have HB : Hid (∀ w, Row w (some ⟨b, o, none⟩) ss → Calls Tryz.prog 13 #[.slice (some ⟨b, o, none⟩) (Pl.half ss.length) cap] w fun e w' => e = .returned (.string (Pl.root (ss.take (Pl.half ss.length)))) ∧ Below w.heap.size w w') := by
    intro w hr
    have := rroot_any ss.length (some ⟨b, o, none⟩) cap (ss.take (Pl.half ss.length)) w (by rw [HT.out]; omega) (by rw [HT.out]; omega) (by rw [HT.out]; omega) hcm (hr.take _) (fun s hs => h30 s (List.mem_of_mem_take hs))
    rwa [HT.out] at this
  have HE : Hid _ := Pl.parts_right ss i q hil hi
  have HL : Hid _ := Pl.parts_length ss.length (ss.drop (Pl.half ss.length)) (i - Pl.half ss.length) false (by rw [List.length_drop]; omega) (by omega) (by rw [List.length_drop]; omega)
  have HR : Hid _ := hr
  have hne : ((i : Int) == (ss.length : Int)) = false := beq_eq_false_iff_ne.2 (by omega)
  clear hr ih h30
  generalize Pl.half ss.length = k at *
  have hPl : (Pl.parts (ss.drop k) (i - k) false).length ≤ 40 := by have := HL.out; rw [List.length_drop] at this; omega
  generalize Pl.parts (ss.drop k) (i - k) false = P1 at *
  generalize Pl.root (ss.take k) = r1 at *
  go_enter Tryz.func50, Tryz.ntmps50
  go_wp2_with fail
  refine (HS.out _).mono ?_
  rintro e w1 ⟨rfl, rfl⟩
  go_wp2_with fail
  refine (HA.out _ HR.out).mono ?_
  rintro e w2 ⟨v2, rfl, ho2, hb2⟩
  have HO2 : Hid (Own w2 w1.heap.size v2 P1) := ho2
  clear ho2
  go_wp2_with fail
  refine (HB.out _ (HR.out.grow hb2 (Nat.le_refl _))).mono ?_
  rintro e w3 ⟨rfl, hb3⟩
  go_wp2_with fail
  refine (with_any v2 _ P1 r1 _ (HO2.out.grow hb3) hPl).mono ?_
  rintro e w4 ⟨v4, rfl, ho4, hb4⟩
  have HO4 : Hid (Own w4 w3.heap.size v4 (P1 ++ [r1])) := ho4
  clear ho4
  go_wp2_with fail
  go_ret
  have k3 := hb2.trans (hb3.mono hb2.size)
  exact ⟨_, rfl, by rw [HE.out]; exact HO4.out.mono k3.size, k3.trans (hb4.mono k3.size)⟩

theorem rparts_any : ∀ (n b o cap : Nat) (ss : List ByteArray) (i : Nat) (q : Bool) (w : World), ss.length ≤ n → ss.length ≤ 40 → (∀ s ∈ ss, s.size ≤ 30) → ss.length ≤ cap → cap ≤ 9223372036854775807 → Row w (some ⟨b, o, none⟩) ss → 1 ≤ i → i ≤ ss.length →
    Calls Tryz.prog 50 #[.slice (some ⟨b, o, none⟩) ss.length cap, .int .i64 i, .bool q] w fun e w' => ∃ v, e = .returned v ∧ Own w' w.heap.size v (Pl.parts ss i q) ∧ Below w.heap.size w w' := by
  intro n
  induction n with
  | zero => intro b o cap ss i q w h _ _ _ _ _ hi hi2; omega
  | succ n ih =>
    intro b o cap ss i q w h h40 h30 hc hm hr hi hi2
    by_cases h1 : i = ss.length
    · cases q with
      | true => rw [Pl.parts_whole ss i hi h1, h1]; exact rparts_whole _ _ cap w
      | false => rw [Pl.parts_root ss i hi h1, h1]; exact rparts_root _ cap ss w h40 h30 hc hm hr
    · have hp := Pl.half_pos ss.length
      have hl := Pl.half_lt ss.length (by omega)
      have e1 := Pl.take_half ss (by omega)
      have e2 := Pl.drop_half ss
      by_cases h2 : i ≤ Pl.half ss.length
      · refine rparts_left b o cap ss i q w (by omega) hi (by omega) h40 h30 hc hm hr h2 fun w hr => ?_
        have := ih b o cap (ss.take (Pl.half ss.length)) i q w (by omega) (by omega) (fun s hs => h30 s (List.mem_of_mem_take hs)) (by omega) hm (hr.take _) hi (by omega)
        rwa [e1] at this
      · refine rparts_right b o cap ss i q w (by omega) h40 h30 hc hm hr h2 (by omega) fun w hr => ?_
        have := ih b (o + Pl.half ss.length) (cap - Pl.half ss.length) (ss.drop (Pl.half ss.length)) (i - Pl.half ss.length) false w (by omega) (by omega) (fun s hs => h30 s (List.mem_of_mem_drop hs)) (by omega) (by omega) (hr.drop _) (by omega) (by omega)
        rwa [e2, show ((i - Pl.half ss.length : Nat) : Int) = (i : Int) - (Pl.half ss.length : Int) by omega] at this

end Go.Proofs.YtkhnjipjbhcgdaaGreat
