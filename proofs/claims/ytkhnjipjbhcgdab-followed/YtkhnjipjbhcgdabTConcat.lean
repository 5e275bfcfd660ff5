import Derived.Test.YtkhnjipjbhcgdabTTurn
import Derived.Laws.AppendOwnNone
import Derived.Lib.AppendZeros
import Derived.Lib.AppendZerosOnto
import Derived.Lib.SliceRun
/-
  THE WALKS of slices.Grow of nothing, slices.Concat of three rows of texts.
-/
namespace Go.Proofs.Ytkhnjipjbhcgdab
open Go.RowKit

theorem zeroCells_one (k : Nat) : (Builtin.zeroCells (Value.string ByteArray.empty).cells k).size = k := by
  rw [size_zeroCells]
  simp [Value.cells]

set_option maxRecDepth 100000 in
set_option maxHeartbeats 4000000 in
theorem tsgrow_nil (n : Nat) (w : World) (h1 : 1 ≤ n) (hn : n ≤ 4000) :
    Calls Try.prog 75 #[.slice none 0 0, .int .i64 n] w fun e w' => ∃ v, e = .returned v ∧ Own w' w.heap.size v [] ∧ Below w.heap.size w w' := by
  obtain ⟨i0, hinf, hz0, hz1, hz2⟩ := info_parts infoStr
  have hold : (Builtin.firstCells i0.size 0 (.slice none 0 0)).run Try.prog w.drew = .ok ([] : List Value).toArray w.drew := run_firstCells_none w.drew i0.size 0 0 0
  have hrz : ∀ ty, (Builtin.append_ #[39, 3] ty #[.slice none 0 0, .int .i64 (n : Int)]).run Try.prog w =
      .ok (.slice (some ⟨w.heap.size, 0, none⟩) (0 + n) (grownCap w (0 + n) 0 9)) (w.drew.alloc (.cells (([] : List Value).toArray ++ Builtin.zeroCells (Value.string ByteArray.empty).cells n ++ Builtin.zeroCells (Value.string ByteArray.empty).cells (grownCap w (0 + n) 0 9 - (0 + n))) 9)) := fun ty =>
    Lib.run_append_grow_zeros w 39 3 ty 9 i0 (.string ByteArray.empty) .i64 .i64 Try.underlying39 Try.underlying3 hinf hz0 none 0 0 [] hold n (by omega) (by omega) (by omega) (by omega) (by rw [hz2]; omega) (growslice_fits (by omega) (by rw [hz2]; omega))
  have hGn := grownCap_ge w (0 + n) 0 9
  have hGm := grownCap_le_maxLen w (0 + n) 0 9 (by unfold maxLen; omega)
  generalize grownCap w (0 + n) 0 9 = G at *
  rw [Nat.zero_add] at *
  have hsz : (([] : List Value).toArray ++ Builtin.zeroCells (Value.string ByteArray.empty).cells n ++ Builtin.zeroCells (Value.string ByteArray.empty).cells (G - n)).size = G := by
    rw [Array.size_append, Array.size_append, zeroCells_one, zeroCells_one]
    simp
    omega
  generalize ([] : List Value).toArray ++ Builtin.zeroCells (Value.string ByteArray.empty).cells n ++ Builtin.zeroCells (Value.string ByteArray.empty).cells (G - n) = cur at *
  have hG63 : G ≤ 9223372036854775807 := hGm
  have hB : Below w.heap.size w (w.drew.alloc (.cells cur 9)) := ((Below.refl _ w).drew).alloc (Nat.le_refl _) _
  have hO : Own (w.drew.alloc (.cells cur 9)) w.heap.size (.slice (some ⟨w.heap.size, 0, none⟩) 0 G) [] := by
    refine ⟨rfl, Or.inr ⟨w.heap.size, G, cur, rfl, Nat.le_refl _, heap_alloc_new w.drew _, by simp, hGm, by rw [hsz]; omega, by simp⟩⟩
  have hnn : ¬ ((n : Int) < 0) := by omega
  have hgt : (0 : Int) < (n : Int) := by omega
  clear hold
  go_enter Try.func75, Try.ntmps75
  go_wp2_with (at_builtin; refine Lib.wpList_append_run _ rfl _ _ _ _ rfl _ _ rfl rfl _ _ (hrz _) ?_)
  all_goals
    go_ret
    exact ⟨_, rfl, hO, hB⟩

/-- A row that is read: nil, or texts behind an address. -/
def Src (w : World) (v : Value) (t : List ByteArray) : Prop := (v = .slice none 0 0 ∧ t = []) ∨ ∃ g o c, v = .slice (some ⟨g, o, none⟩) t.length c ∧ Row w (some ⟨g, o, none⟩) t
theorem Own.src {w : World} {B : Nat} {v : Value} {ss : List ByteArray} (h : Own w B v ss) (hs : ∀ s ∈ ss, s.size ≤ maxLen) (hl : ss.length ≤ maxLen) : Src w v ss := by
  rcases Classical.em (ss = []) with h0 | h0
  · subst h0
    rcases h.2 with ⟨rfl, _⟩ | ⟨g, cap, cur, rfl, _⟩
    · exact Or.inl ⟨rfl, rfl⟩
    · exact Or.inr ⟨g, 0, cap, rfl, by simp, by simp, Or.inl rfl⟩
  · obtain ⟨g, cap, rfl, _, _, _, hr⟩ := h.open h0 hs hl
    exact Or.inr ⟨g, 0, cap, rfl, hr⟩
theorem Src.grow {w w' : World} {v : Value} {t : List ByteArray} (h : Src w v t) (hb : Below w.heap.size w w') : Src w' v t := by
  rcases h with h | ⟨g, o, c, hv, hr⟩
  · exact Or.inl h
  · exact Or.inr ⟨g, o, c, hv, hr.grow hb (Nat.le_refl _)⟩
theorem Src.len {w : World} {v : Value} {t : List ByteArray} (h : Src w v t) : ∃ p c, v = .slice p t.length c := by
  rcases h with ⟨rfl, rfl⟩ | ⟨g, o, c, rfl, _⟩
  · exact ⟨none, 0, rfl⟩
  · exact ⟨_, c, rfl⟩
theorem row_news {w : World} {g o : Nat} {t : List ByteArray} (hr : Row w (some ⟨g, o, none⟩) t) : ∀ j u, (t.map Value.string)[j]? = some u → w.cell? ((⟨g, o, none⟩ : Addr).add j) = some u := by
  intro j u hu
  rw [List.getElem?_map] at hu
  cases ht : t[j]? with
  | none => rw [ht] at hu; cases hu
  | some x =>
    rw [ht] at hu
    obtain ⟨hj, rfl⟩ := List.getElem?_eq_some_iff.1 ht
    rcases hr.cell with h0 | ⟨b', o', he, hb, hcell⟩
    · rw [h0] at hj; simp at hj
    · simp only [Option.some.injEq, Addr.mk.injEq, and_true] at he
      obtain ⟨rfl, rfl⟩ := he
      rw [Hp.add_plain, hcell j hj]
      exact hu
theorem all_cells {t : List ByteArray} : ∀ u ∈ t.map Value.string, u.oneCell' = true := by
  intro u hu
  obtain ⟨x, _, rfl⟩ := List.mem_map.1 hu
  rfl

set_option maxRecDepth 100000 in
set_option maxHeartbeats 4000000 in
theorem tconcat_any (b : Nat) (V : Nat → Value) (T C : Nat → List ByteArray) (w : World) (hb : b < w.heap.size) (hV : ∀ k, k < 3 → w.cell? ⟨b, k, none⟩ = some (V k)) (hS : ∀ k, k < 3 → Src w (V k) (T k)) (hC0 : C 0 = []) (hC : ∀ k, k < 3 → C (k + 1) = C k ++ T k) (hCl : ∀ k, k ≤ 3 → (C k).length ≤ 4000) (h1 : 1 ≤ (C 3).length) :
    Calls Try.prog 65 #[.slice (some ⟨b, 0, none⟩) 3 3] w fun e w' => ∃ v, e = .returned v ∧ Own w' w.heap.size v (C 3) ∧ Below w.heap.size w w' := by
  obtain ⟨i0, hinf, hz0, hz1, hz2⟩ := info_parts infoStr
  have HG : Hid _ := fun w => tsgrow_nil (C 3).length w h1 (hCl 3 (by omega))
  have HV : Hid _ := hV
  have HS : Hid _ := hS
  have HC : Hid _ := hC
  have HCl : Hid _ := hCl
  have HC0 : Hid _ := hC0
  have hl0 : (C 0).length = 0 := by rw [hC0]; rfl
  have hl3 := hCl 3 (by omega)
  clear hV hS hC hCl hC0
  go_enter Try.func65, Try.ntmps65
  go_wp2_with fail
  go_loop [3, 11] (fun s i => ∃ k : Nat, k ≤ 3 ∧ i = .int .i64 k ∧ s = .int .i64 ((C k).length : Nat)) (fun _ i => 3 - (intOf i).toNat)
  case atStart => exact ⟨0, by omega, rfl, by rw [hl0]; rfl⟩
  case round =>
    obtain ⟨k, hk, rfl, rfl⟩ := hrel
    by_cases hlt : k < 3
    · have hv := HV.out k hlt
      obtain ⟨p, c, hvk⟩ := (HS.out k hlt).len
      rw [hvk] at hv
      have hc1 := HCl.out k (by omega)
      have hc2 := HCl.out (k + 1) (by omega)
      have he := HC.out k hlt
      have hlen : (C (k + 1)).length = (C k).length + (T k).length := by rw [he, List.length_append]
      have hnn : ¬ (((C k).length : Int) + ((T k).length : Int) < 0) := by omega
      have hwr : IntKind.i64.wrap (((C k).length : Int) + ((T k).length : Int)) = ((C k).length : Int) + ((T k).length : Int) := by rw [IntKind.wrap_i64]; omega
      clear he
      go_wp2_with fail
      go_round
      case rel => exact ⟨k + 1, by omega, by go_num, by rw [hlen]; go_num⟩
      case measure => simp [intOf]; omega
    · obtain rfl : k = 3 := by omega
      go_wp2_with fail
      refine (HG.out _).mono ?_
      rintro e w1 ⟨v1, rfl, ho1, hb1⟩
      have HB1 : Hid (Below w.heap.size w w1) := hb1
      have HO1 : Hid (Own w1 w.heap.size v1 (C 0)) := by show Own _ _ _ _; rw [HC0.out]; exact ho1
      have hs1 := hb1.size
      clear ho1 hb1
      go_wp2_with fail
      go_loopw [6, 27] (fun v i wr => ∃ k : Nat, k ≤ 3 ∧ i = .int .i64 k ∧ Hid (Own wr w.heap.size v (C k)) ∧ Hid (Below w.heap.size w wr)) (fun _ i _ => 3 - (intOf i).toNat)
      case atStart => exact ⟨0, by omega, rfl, HO1, HB1⟩
      case round =>
        obtain ⟨k, hk, rfl, HO, HB⟩ := hrel
        by_cases hlt : k < 3
        · have hv := HV.out k hlt
          have hv2 : wr.cell? ⟨b, k, none⟩ = some (V k) := by rw [HB.out.cell (p := ⟨b, k, none⟩) hb]; exact hv
          have hsr := HB.out.size
          have HE : Hid _ := HC.out k hlt
          have hc1 := HCl.out k (by omega)
          have hc2 := HCl.out (k + 1) (by omega)
          have hlen : (C k).length + (T k).length ≤ 4000 := by
            have he := HE.out
            have := congrArg List.length he
            rw [List.length_append] at this
            omega
          rcases (HS.out k hlt).grow HB.out with ⟨hvk, ht⟩ | ⟨g, o, c, hvk, hrow⟩
          · rw [hvk] at hv2
            have HX0 := HO.out
            rw [← List.append_nil (C k), ← ht, ← HE.out] at HX0
            have HX : Hid _ := HX0
            clear HX0
            clear hv hvk
            go_wp2_with (at_builtin; refine wpList_append_own_none rfl (.tmp 31) (.tmp 32) 39 rfl w.heap.size 9 i0 1 Try.underlying39 hinf _ _ _ rfl HO.out rfl ?_)
            go_roundw
            case rel => exact ⟨k + 1, by omega, by go_num, HX, HB⟩
            case measure => simp [intOf]; omega
          · rw [hvk] at hv2
            have HN : Hid _ := row_news hrow
            clear hv hvk hrow
            go_wp2_with (at_builtin; refine wpList_append_own _ rfl (.tmp 31) (.tmp 32) 39 rfl w.heap.size 9 i0 (.string ByteArray.empty) 1 16 Try.underlying39 hinf hz0 hz1 hz2 rfl (by decide) _ _ _ rfl HO.out ⟨g, o, none⟩ (T k).length c ((T k).map Value.string) rfl (by simp) HN.out all_cells (by unfold maxLen; omega) (by omega) (by omega) ?_)
            intro v2 w2 ho2 hg2 _
            have HX : Hid (Own w2 w.heap.size v2 (C (k + 1))) := by
              show Own _ _ _ _
              rw [HE.out]
              unfold Own
              rw [List.length_append, List.map_append]
              exact ho2
            have HB2 : Hid (Below w.heap.size w w2) := HB.out.grown hg2 hsr (fun k hk => (World.ownsRow.lt HO.out k hk).1)
            clear ho2 hg2 HN
            go_wp2_with fail
            go_roundw
            case rel => exact ⟨k + 1, by omega, by go_num, HX, HB2⟩
            case measure => simp [intOf]; omega
        · obtain rfl : k = 3 := by omega
          go_wp2_with fail
          go_ret
          exact ⟨_, rfl, HO.out, HB.out⟩
end Go.Proofs.Ytkhnjipjbhcgdab
