/-
  THE WALK of treeheadkeep.Shown.
-/
import Derived.Test.YtkhnjipjbhcgdaaPlainX
import Derived.Test.YtkhnjipjbhcgdaaTExt2
import Derived.Test.YtkhnjipjbhcgdaaKRows
import Derived.Test.YtkhnjipjbhcgdaaOpen2
namespace Go.Proofs.Ytkhnjipjbhcgdaa
open Go.RowKit

theorem Own.any {w : World} {B : Nat} {v : Value} {ss : List ByteArray} (h : Own w B v ss) (hs : ∀ s ∈ ss, s.size = 4) (hl : ss.length ≤ maxLen) : ∃ p cap, v = .slice p ss.length cap ∧ ss.length ≤ cap ∧ cap ≤ maxLen ∧ Row w p ss ∧ (p = none → ss.length = 0) := by
  by_cases h0 : ss = []
  · subst h0
    rcases h.2 with ⟨rfl, _⟩ | ⟨g, cap, cur, rfl, hb, hg, hc, hm, hz, ht⟩
    · exact ⟨none, 0, rfl, Nat.le_refl _, by decide, row_nil w, fun _ => rfl⟩
    · exact ⟨some ⟨g, 0, none⟩, cap, rfl, hc, hm, ⟨by simp, by simp, Or.inl rfl⟩, fun hh => by cases hh⟩
  · obtain ⟨g, cap, h1, _, h2, h3, h4⟩ := h.open h0 (fun s hx => by rw [hs s hx]; decide) hl
    exact ⟨_, cap, h1, h2, h3, h4, fun hh => by cases hh⟩

/-- append where there is no room, as one step of a region that draws. -/
theorem step_append_grows {P : Program} {ops : Array Oper} {o : Oper} {a : Act} {w : World} {K : Act → World → Prop} {Q : Exit → Act → World → Prop} {E : Prop}
    (hg : o.guard = none) (s x : Operand) (t : TypeId) (hop : o.op = Op.call { callee := Callee.builtin Builtin.append, args := #[s, x], argTypes := #[t, t] })
    (e : TypeId) (i : TypeInfo) (z : Value) (size bytes : Nat) (h1 : P.underlying t = some (.slice e)) (h2 : P.info? e = some i) (h3 : i.zero = some z) (h4 : i.size = size) (h5 : i.bytes = bytes) (h6 : z.cells.size = size) (h7 : 0 < size)
    (ao : Option Addr) (n cap : Nat) (olds : List Value) (hs : a.eval s = .slice ao n cap) (hnone : ao = none → n = 0 ∧ cap = 0) (hlo : olds.length = n * size) (holds : ∀ b, ao = some b → ∀ j u, olds[j]? = some u → w.cell? (b.add j) = some u)
    (ad : Addr) (m c : Nat) (news : List Value) (hx : a.eval x = .slice (some ad) m c) (hn : news.length = m * size) (hc : ∀ j u, news[j]? = some u → w.cell? (ad.add j) = some u) (h1c : ∀ u ∈ news, u.oneCell' = true)
    (hfull : cap < n + m) (b1 : n + m ≤ maxLen) (b2 : (n + m) * bytes ≤ 140737488355328)
    (hK : ∀ v' w', w'.ownsRow w.heap.size e size v' (n + m) (olds ++ news) → w.grownBy w' none → K (a.put o.dst v') w') :
    if Region.wanted o (yielded ops a.tmps) = true then Oper.wp P o a w K Q else E := by
  have hw : Region.wanted o (yielded ops a.tmps) = true := by simp [Region.wanted, hg]
  rw [if_pos hw]
  cases ao with
  | some b =>
    obtain ⟨v', w', hrun, r1, r2⟩ := run_append_arg_grows (P := P) w t o.type e i z size bytes h1 h2 h3 h4 h5 h6 h7 b n cap olds hlo (holds b rfl) ad m c news hn hc hfull b1 b2
    unfold Oper.wp
    simp [execOp, hop, resolve, invoke, builtin, hs, hx, hrun, Result.andThen]
    exact hK v' w' r1 r2
  | none =>
    obtain ⟨rfl, rfl⟩ := hnone rfl
    obtain rfl : olds = [] := List.eq_nil_of_length_eq_zero (by simpa using hlo)
    obtain ⟨v', w', hrun, r1, r2, _⟩ := run_append_own (P := P) w w.heap.size t o.type e i z size bytes h1 h2 h3 h4 h5 h6 h7 (.slice none 0 0) 0 [] (World.ownsRow_nil w _ e size) ad m c news hn hc h1c b1 b2 (Nat.le_refl _)
    unfold Oper.wp
    simp [execOp, hop, resolve, invoke, builtin, hs, hx, hrun, Result.andThen]
    exact hK v' w' (by simpa using r1) r2

theorem ansB_at (n i : Nat) (s : ByteArray) (hn : n ≤ 40) (hi : i < n) (hs : s.size ≤ 30) : Pl.ansB (n : Int) (i : Int) s = true := by
  unfold Pl.ansB
  simp only [Bool.and_eq_true, decide_eq_true_iff]
  exact ⟨⟨⟨⟨by omega, by omega⟩, by omega⟩, by omega⟩, hs⟩
theorem incl_made (L : List ByteArray) (i : Nat) (hi : i < L.length) (h40 : L.length ≤ 40) (hs : ∀ s ∈ L, s.size ≤ 30) : inclA (Pl.root L) L.length i L[i] (Pl.path L i) = 0 := by
  obtain ⟨t, ht⟩ := Pl.leafT_path L.length L i hi rfl
  unfold inclA
  rw [if_pos ⟨Pl.root_isSum L, ansB_at _ _ _ h40 hi (hs _ (List.getElem_mem _))⟩, Int.toNat_natCast, Int.toNat_natCast, ht]
  exact if_pos rfl
theorem incl_long (L : List ByteArray) (i : Nat) (hi : i < L.length) (h40 : L.length ≤ 40) (hs : ∀ s ∈ L, s.size ≤ 30) (r : ByteArray) : inclA (Pl.root L) L.length i L[i] (Pl.path L i ++ [r]) = 6 := by
  have ht := Pl.leafT_long L i hi r
  unfold inclA
  rw [if_pos ⟨Pl.root_isSum L, ansB_at _ _ _ h40 hi (hs _ (List.getElem_mem _))⟩, Int.toNat_natCast, Int.toNat_natCast, ht]
theorem ext_made (L : List ByteArray) (m : Nat) (h1 : 1 ≤ m) (h2 : m ≤ L.length) (h40 : L.length ≤ 40) : extA m (Pl.root (L.take m)) L.length (Pl.root L) (Pl.parts L m true) = 0 := by
  obtain ⟨t, ht⟩ := Pl.bothT_parts L.length L m true (Pl.root (L.take m)) rfl (by omega) h1 h2 (fun _ => rfl)
  unfold extA
  rw [if_pos ⟨Pl.root_isSum _, Pl.root_isSum _, by omega, by omega, by omega⟩, Int.toNat_natCast, Int.toNat_natCast, ht]
  exact if_pos ⟨rfl, rfl⟩

theorem row_cells {w w' : World} {p : Option Addr} {ss : List ByteArray} {b : Addr} {j : Nat} {u : Value} (hr : Row w p ss) (hb : Below w.heap.size w w') (hp : p = some b) (hu : (ss.map Value.string)[j]? = some u) : w'.cell? (b.add j) = some u := by
  have hj : j < ss.length := by
    have := (List.getElem?_eq_some_iff.1 hu).1
    simpa using this
  rcases (hr.grow hb (Nat.le_refl _)).cell with h0 | ⟨g, o, he, _, hc⟩
  · rw [h0] at hj; cases hj
  · rw [hp] at he
    simp only [Option.some.injEq] at he
    subst he
    rw [add_plain, hc j hj]
    simpa [List.getElem?_eq_getElem hj] using hu
theorem own_more {w : World} {B B' : Nat} {v : Value} {ss : List ByteArray} {s : ByteArray} (hB : B ≤ B') (h : w.ownsRow B' 9 1 v (ss.length + 1) (ss.map Value.string ++ [.string s])) : Own w B v (ss ++ [s]) := by
  unfold Own
  rw [List.length_append, List.map_append]
  refine ⟨h.1, ?_⟩
  rcases h.2 with hn | ⟨g, cap, cur, hv, hb, rest⟩
  · exact Or.inl hn
  · exact Or.inr ⟨g, cap, cur, hv, Nat.le_trans hB hb, rest⟩

set_option maxRecDepth 100000 in
set_option maxHeartbeats 4000000 in
theorem shown_row (p : Option Addr) (cap : Nat) (ss : List ByteArray) (c1 c2 : Int) (w : World) (hr : Row w p ss) (hc1 : Fits c1) (hc2 : Fits c2) :
    Calls Try.prog 13 #[.slice p ss.length cap, .int .i64 c1, .int .i64 c2] w fun e w' => e = .returned (.bool true) ∧ Below w.heap.size w w' := by
  obtain ⟨i0, hinf, hz0, hz1, hz2⟩ := info_parts infoStr
  have HR : Hid _ := hr
  clear hr
  go_enter Try.func13, Try.ntmps13
  go_wp2_with fail
  refine (leaves_any p cap ss 39 w HR.out (by omega)).mono ?_
  rintro e w1 ⟨v, rfl, ho, hb1⟩
  have hl1 : (lv ss (min 39 ss.length)).length = min 39 ss.length + 1 := lv_length _ _ (Nat.min_le_right _ _)
  have hlo : 1 ≤ (lv ss (min 39 ss.length)).length ∧ (lv ss (min 39 ss.length)).length ≤ 40 := by omega
  have hzs := lv_sizes ss (min 39 ss.length)
  clear hl1
  generalize lv ss (min 39 ss.length) = L at *
  obtain ⟨hL1, hL2⟩ := hlo
  obtain ⟨g, cp, rfl, _, hcp, hcm, hrow⟩ := ho.open (by intro h; rw [h] at hL1; simp at hL1) (fun s hs => Nat.le_trans (hzs s hs) (by decide)) (le_max hL2)
  clear ho
  obtain ⟨i, hi⟩ : ∃ i : Nat, pickOf c1 L.length = (i : Int) := ⟨(pickOf c1 L.length).toNat, by have := pickOf_nonneg c1 L.length (by omega); omega⟩
  obtain ⟨m', hm'⟩ : ∃ m : Nat, pickOf c2 L.length = (m : Int) := ⟨(pickOf c2 L.length).toNat, by have := pickOf_nonneg c2 L.length (by omega); omega⟩
  have hil : i < L.length := by have := pickOf_lt c1 L.length (by omega); omega
  have hml : m' < L.length := by have := pickOf_lt c2 L.length (by omega); omega
  have HP1 : Hid (∀ w, Calls Try.prog 42 #[.int .i64 c1, .int .i64 L.length] w fun e w' => e = .returned (.int .i64 i) ∧ w' = w) := fun w => by
    have := pick_any c1 L.length w hc1 (by omega) (by omega)
    rwa [hi] at this
  have HP2 : Hid (∀ w, Calls Try.prog 42 #[.int .i64 c2, .int .i64 L.length] w fun e w' => e = .returned (.int .i64 m') ∧ w' = w) := fun w => by
    have := pick_any c2 L.length w hc2 (by omega) (by omega)
    rwa [hm'] at this
  clear hi hm' hc1 hc2
  have htl : (L.take (1 + m')).length = 1 + m' := by rw [List.length_take]; omega
  have H1 : Hid (∀ w', Row w' (some ⟨g, 0, none⟩) L → Calls Try.prog 18 #[.slice (some ⟨g, 0, none⟩) L.length cp] w' fun e w'' => e = .returned (.tuple #[.string (Pl.root L), .int .i64 0]) ∧ Below w'.heap.size w' w'') := fun w' h => troot_to _ cp L.length _ _ w' rfl hcp hcm h hL2 hzs rfl
  have H2 : Hid (∀ w', Row w' (some ⟨g, 0, none⟩) L → Calls Try.prog 18 #[.slice (some ⟨g, 0, none⟩) (1 + m') cp] w' fun e w'' => e = .returned (.tuple #[.string (Pl.root (L.take (1 + m'))), .int .i64 0]) ∧ Below w'.heap.size w' w'') := fun w' h => troot_to _ cp (1 + m') _ _ w' htl (by omega) hcm (h.take (1 + m')) (by omega) (fun s hs => hzs s (List.mem_of_mem_take hs)) rfl
  have hokL : okB L = true := okB_mk hL2 hzs
  have H3 : Hid (∀ w', Row w' (some ⟨g, 0, none⟩) L → Calls Try.prog 43 #[.slice (some ⟨g, 0, none⟩) L.length cp, .int .i64 i] w' fun e w'' => ∃ v, e = .returned (.tuple #[v, .int .i64 0]) ∧ Own w'' w'.heap.size v (Pl.path L i) ∧ Below w'.heap.size w' w'') := fun w' h => by
    have := tincl_yes _ cp L (i : Int) w' hcp hcm h (by unfold inclB; simp [hokL, hil])
    rwa [Int.toNat_natCast] at this
  have H4 : Hid (∀ w', Row w' (some ⟨g, 0, none⟩) L → Calls Try.prog 44 #[.slice (some ⟨g, 0, none⟩) L.length cp, .int .i64 ((1 + m' : Nat) : Int)] w' fun e w'' => ∃ v, e = .returned (.tuple #[v, .int .i64 0]) ∧ Own w'' w'.heap.size v (Pl.parts L (1 + m') true) ∧ Below w'.heap.size w' w'') := fun w' h => by
    have := text_yes _ cp L ((1 + m' : Nat) : Int) w' hcp hcm h (by unfold extB; simp [hokL]; omega)
    rwa [Int.toNat_natCast] at this
  have hcell : ∀ w', Row w' (some ⟨g, 0, none⟩) L → w'.cell? ⟨g, i, none⟩ = some (.string L[i]) := fun w' h => by
    have := h.cellAt i hil
    rwa [Nat.zero_add] at this
  have HC : Hid _ := hcell
  have hsi : L[i].size ≤ maxLen := Nat.le_trans (hzs _ (List.getElem_mem _)) (by decide)
  have E1 := incl_made L i hil hL2 hzs
  have E2 := incl_long L i hil hL2 hzs (Pl.root L)
  have E3 := ext_made L (1 + m') (by omega) (by omega) hL2
  have hP4 := Pl.path_sizes L.length L i (Nat.le_refl _)
  have hPl := Pl.path_length L.length L i (Nat.le_refl _)
  have hQ4 := Pl.parts_sizes L.length L (1 + m') true (Nat.le_refl _) (by omega) (by omega)
  have hQl := Pl.parts_length L.length L (1 + m') true (Nat.le_refl _) (by omega) (by omega)
  have H5 : Hid (∀ p cap w', Row w' p (Pl.path L i) → Calls Try.prog 26 #[.string (Pl.root L), .agg #[.int .i64 L.length, .int .i64 i, .string L[i], .slice p (Pl.path L i).length cap]] w' fun e w'' => e = .returned (.int .i64 0) ∧ Below w'.heap.size w' w'') := fun p cap w' h => by
    have := tincl_any (Pl.root L) L.length i L[i] p cap (Pl.path L i) w' (root_le _) hsi h
    rwa [E1] at this
  have H6 : Hid (∀ p cap w', Row w' p (Pl.path L i ++ [Pl.root L]) → Calls Try.prog 26 #[.string (Pl.root L), .agg #[.int .i64 L.length, .int .i64 i, .string L[i], .slice p ((Pl.path L i).length + 1) cap]] w' fun e w'' => e = .returned (.int .i64 6) ∧ Below w'.heap.size w' w'') := fun p cap w' h => by
    have := tincl_any (Pl.root L) L.length i L[i] p cap (Pl.path L i ++ [Pl.root L]) w' (root_le _) hsi h
    rw [E2, List.length_append] at this
    exact this
  have H7 : Hid (∀ p cap w', Row w' p (Pl.parts L (1 + m') true) → (Pl.parts L (1 + m') true).length ≤ cap → Calls Try.prog 27 #[.agg #[.int .i64 ((1 + m' : Nat) : Int), .string (Pl.root (L.take (1 + m')))], .agg #[.int .i64 L.length, .string (Pl.root L)], .slice p (Pl.parts L (1 + m') true).length cap] w' fun e w'' => e = .returned (.int .i64 0) ∧ Below w'.heap.size w' w'') := fun p cap w' h hc => by
    have := text_any ((1 + m' : Nat) : Int) L.length (Pl.root (L.take (1 + m'))) (Pl.root L) p cap (Pl.parts L (1 + m') true) w' (root_le _) (root_le _) h hc
    rwa [E3] at this
  have hr4 := Pl.root_size L
  rw [show ((1 + m' : Nat) : Int) = 1 + (m' : Int) by omega] at H4 H7
  clear E1 E2 E3 hokL htl hcell hsi
  have HP4 : Hid (∀ s ∈ Pl.path L i, s.size = 4) := hP4
  have HQ4 : Hid (∀ s ∈ Pl.parts L (1 + m') true, s.size = 4) := hQ4
  clear hP4 hQ4 hzs
  generalize Pl.path L i = A at *
  generalize Pl.parts L (1 + m') true = B at *
  generalize Pl.root (L.take (1 + m')) = R2 at *
  generalize Pl.root L = R1 at *
  generalize L[i] = li at *
  have hA40 : A.length ≤ 40 := by omega
  have hB40 : B.length ≤ 40 := by omega
  go_wp2_with fail
  refine (HP1.out _).mono ?_
  rintro e w2 ⟨rfl, rfl⟩
  go_wp2_with fail
  refine (HP2.out _).mono ?_
  rintro e w3 ⟨rfl, rfl⟩
  go_wp2_with fail
  refine (H1.out _ hrow).mono ?_
  rintro e w4 ⟨rfl, b4⟩
  go_wp2_with fail
  refine (H2.out _ (hrow.grow b4 (Nat.le_refl _))).mono ?_
  rintro e w5 ⟨rfl, b5⟩
  have k4 := hb1.trans (b4.mono hb1.size)
  have k5 := k4.trans (b5.mono k4.size)
  have hrow5 := (hrow.grow b4 (Nat.le_refl _)).grow b5 (Nat.le_refl _)
  clear hrow b4 b5 k4 hb1
  go_wp2_with fail
  refine (H3.out _ hrow5).mono ?_
  rintro e w6 ⟨v6, rfl, ho6, b6⟩
  obtain ⟨p6, cp6, rfl, hc6, hx6, hr6, hn6⟩ := ho6.any HP4.out (le_max hA40)
  have hrow6 := hrow5.grow b6 (Nat.le_refl _)
  have k6 := k5.trans (b6.mono k5.size)
  clear ho6 hrow5 b6 k5
  go_wp2_with fail
  refine (H4.out _ hrow6).mono ?_
  rintro e w7 ⟨v7, rfl, ho7, b7⟩
  obtain ⟨p7, cp7, rfl, hc7, hx7, hr7, hn7⟩ := ho7.any HQ4.out (le_max hB40)
  have hrow7 := hrow6.grow b7 (Nat.le_refl _)
  have hr67 := hr6.grow b7 (Nat.le_refl _)
  have k7 := k6.trans (b7.mono k6.size)
  have x7 := HC.out _ hrow7
  clear ho7 hrow6 b7 k6 hr6
  go_wp2_with fail
  refine (H5.out _ _ _ hr67).mono ?_
  rintro e w8 ⟨rfl, b8⟩
  have hrow8 := hrow7.grow b8 (Nat.le_refl _)
  have hr68 := hr67.grow b8 (Nat.le_refl _)
  have hr78 := hr7.grow b8 (Nat.le_refl _)
  have k8 := k7.trans (b8.mono k7.size)
  clear hrow7 hr67 hr7 b8 k7 x7
  go_wp2_with fail
  refine (H7.out _ _ _ hr78 hc7).mono ?_
  rintro e w9 ⟨rfl, b9⟩
  have hrow9 := hrow8.grow b9 (Nat.le_refl _)
  have hr69 := hr68.grow b9 (Nat.le_refl _)
  have k9 := k8.trans (b9.mono k8.size)
  clear hrow8 hr68 hr78 b9 k8
  go_wp2_with fail
  have x9 := HC.out _ hrow9
  have lg : g < w9.heap.size := by
    rcases hrow9.cell with h0 | ⟨b, o, he, hb, _⟩
    · rw [h0] at hL1; simp at hL1
    · simp only [Option.some.injEq, Addr.mk.injEq, and_true] at he
      rw [he.1]; exact hb
  have u1 : (0 : Int) ≤ (A.length : Int) := by omega
  have u2 : (A.length : Int) ≤ (cp6 : Int) := by omega
  have u3 : (0 : Int) ≤ (i : Int) := by omega
  have u4 : (i : Int) < (L.length : Int) := by omega
  have HB0 : Hid (Below w9.heap.size w9 (w9.alloc (.cells #[.string R1] 9)).drew) := ((Below.refl _ _).alloc (Nat.le_refl _) _).drew
  have HR69 : Hid _ := hr69
  have HN6 : Hid (p6 = none → A.length = 0) := hn6
  have HA4 : Hid (∀ s ∈ A ++ [R1], s.size = 4) := fun s hs => by
    rcases List.mem_append.1 hs with h | h
    · exact HP4.out s h
    · rw [List.mem_singleton.1 h]; exact hr4
  have hs9 := k9.size
  clear hr69 hn6 hn7 hrow9
  go_region_law (first
    | (refine step_append_grows rfl (.tmp 103) (.tmp 105) 22 rfl 9 i0 (.string ByteArray.empty) 1 16 Try.underlying22 hinf hz0 hz1 hz2 rfl (by decide) p6 A.length A.length (A.map Value.string) rfl (fun h => ⟨HN6.out h, HN6.out h⟩) (by simp) ?_ ⟨w9.heap.size, 0, none⟩ 1 1 [.string R1] rfl rfl (cell_one_new w9 _ _) one_cell (by omega) (by unfold maxLen; omega) (by omega) ?_; · { intro b hb j u hu; exact row_cells HR69.out HB0.out hb hu }; intro v10 w10 ho10 hg10; have b10 := HB0.out.grown hg10 (by simp) (fun k hk => by cases hk); have ho : Own w10 w9.heap.size v10 (A ++ [R1]) := own_more (by simp) ho10; obtain ⟨p10, cp10, hv10, hc10, hx10, hr10, _⟩ := ho.any HA4.out (by simp; unfold maxLen; omega); subst hv10; have x10 : w10.cell? ⟨g, i, none⟩ = some (.string li) := by { rw [b10.cell (p := ⟨g, i, none⟩) lg]; exact x9 })
    | (go_simp; go_at_call 26; refine (H6.out _ _ _ hr10).mono ?_; rintro e w11 ⟨rfl, b11⟩))
  all_goals
    go_wp2_with fail
    go_ret
    have k10 := k9.trans (b10.mono hs9)
    exact ⟨rfl, k10.trans (b11.mono k10.size)⟩

theorem shown_walk (v : Value) (ss : List ByteArray) (c1 c2 : Int) (w : World) (hr : IsRow w v ss) (h1 : Fits c1) (h2 : Fits c2) :
    Calls Try.prog 13 #[v, .int .i64 c1, .int .i64 c2] w fun e w' => e = .returned (.bool true) ∧ Below w.heap.size w w' := by
  rcases hr with ⟨rfl, rfl⟩ | ⟨a, cap, rfl, _, _, hr⟩
  · exact shown_row none 0 [] c1 c2 w (row_nil w) h1 h2
  · exact shown_row (some a) cap ss c1 c2 w hr h1 h2

end Go.Proofs.Ytkhnjipjbhcgdaa
