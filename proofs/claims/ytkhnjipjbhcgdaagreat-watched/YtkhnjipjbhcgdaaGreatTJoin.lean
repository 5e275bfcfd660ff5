import Derived.Test.YtkhnjipjbhcgdaaGreatOpen2
import Derived.Test.YtkhnjipjbhcgdaaGreatLays
import Derived.Deep.RegionLaw
/-
  THE WALKS of strings.Join of short texts, of (*Fold).sum.
-/
namespace Go.Proofs.YtkhnjipjbhcgdaaGreat
open Go.RowKit

theorem sumB_size (t : ByteArray) : (Pl.sumB t).size = 4 := rfl
theorem joinTail_cat : ∀ ss : List ByteArray, Lib.joinTail [] (ss.map (fun x => x.data.toList)) = Pl.cat ss := by
  intro ss
  induction ss with
  | nil => rfl
  | cons s r ih =>
    unfold Lib.joinTail at ih ⊢
    simp only [List.map_cons, List.flatten_cons, List.nil_append]
    show s.data.toList ++ _ = s.data.toList ++ Pl.cat r
    rw [← ih]
    simp
theorem join_cat (ss : List ByteArray) : Lib.join (ss.map (fun x => x.data.toList)) [] = Pl.cat ss := by
  cases ss with
  | nil => rfl
  | cons s r =>
    rw [List.map_cons, Lib.join_cons, joinTail_cat]
    rfl
theorem tjoin_any (b o cap : Nat) (ss : List ByteArray) (w : World) (hr : Row w (some ⟨b, o, none⟩) ss) (hne : ss ≠ []) (hc : ss.length ≤ cap) (hl : ss.length ≤ 40) (hz : (Pl.cat ss).length ≤ 64) :
    Calls Tryz.prog 99 #[.slice (some ⟨b, o, none⟩) ss.length cap, .string ⟨#[]⟩] w fun e w' => e = .returned (.string ⟨(Pl.cat ss).toArray⟩) ∧ Below w.heap.size w w' := by
  rcases hr.cell with h0 | ⟨b', o', he, hb, hcell⟩
  · exact absurd h0 hne
  simp only [Option.some.injEq, Addr.mk.injEq, and_true] at he
  obtain ⟨rfl, rfl⟩ := he
  have hj := join_cat ss
  have h := Any.strings_Join laysJoin extraJoin b o cap ss ⟨#[]⟩ w (fun j x hx => by
    obtain ⟨hj, rfl⟩ := List.getElem?_eq_some_iff.1 hx
    exact hcell j hj) hb (by omega) hc (by
    show (Lib.join (ss.map (fun x => x.data.toList)) []).length ≤ _
    rw [hj]
    omega)
  have h2 : Calls Tryz.prog 99 #[.slice (some ⟨b, o, none⟩) ss.length cap, .string ⟨#[]⟩] w fun e w' => e = .returned (.string ⟨(Lib.join (ss.map (fun x => x.data.toList)) []).toArray⟩) ∧ Below w.heap.size w w' := h
  rwa [hj] at h2

theorem run_append_mine {P : Program} (w : World) (base : Nat) (t ty e : TypeId) (i : TypeInfo) (z : Value) (size bytes : Nat) (ht : P.underlying t = some (.slice e)) (hi : P.info? e = some i) (hz : i.zero = some z)
    (hsize : i.size = size) (hby : i.bytes = bytes) (hzs : z.cells.size = size) (hsz : 0 < size)
    (v : Value) (n : Nat) (xs : List Value) (hown : w.ownsRow base e size v n xs)
    (a : Addr) (m c : Nat) (news : List Value) (hl : news.length = m * size) (hnews : ∀ j u, news[j]? = some u → w.cell? (a.add j) = some u) (h1 : ∀ u ∈ news, u.oneCell' = true)
    (h63 : n + m ≤ maxLen) (hbytes : (n + m) * bytes ≤ 140737488355328) (hbase : base ≤ w.heap.size) :
    ∃ v' w', (Builtin.append_ #[t, t] ty #[v, .slice (some a) m c]).run P w = .ok v' w' ∧ w'.ownsRow base e size v' (n + m) (xs ++ news) ∧ w.grownBy w' v.ownBlock ∧ (∀ k, some k = v'.ownBlock → some k = v.ownBlock ∨ w.heap.size ≤ k) := by
  obtain ⟨v', w', hrun, r1, r2, _⟩ := run_append_own (P := P) w base t ty e i z size bytes ht hi hz hsize hby hzs hsz v n xs hown a m c news hl hnews h1 h63 hbytes hbase
  refine ⟨v', w', hrun, r1, r2, ?_⟩
  rcases hown.2 with ⟨rfl, rfl⟩ | ⟨g, cap, cur, rfl, hbg, hg, hnc, hcm, hcs, htake⟩
  · have hx : xs = [] := List.eq_nil_of_length_eq_zero (by simpa using hown.1)
    subst hx
    obtain ⟨v2, w2, hrun2, q1, _, _⟩ := run_append_own (P := P) w w.heap.size t ty e i z size bytes ht hi hz hsize hby hzs hsz (.slice none 0 0) 0 [] (World.ownsRow_nil w _ e size) a m c news hl hnews h1 h63 hbytes (Nat.le_refl _)
    rw [hrun] at hrun2
    injection hrun2 with e1 e2
    subst e1 e2
    exact fun k hk => Or.inr (World.ownsRow.lt q1 k hk.symm).1
  · by_cases hroom : n + m ≤ cap
    · have hfit : n * i.size + news.length ≤ cur.size := by rw [hl, hcs, hsize, ← Nat.add_mul]; exact Nat.mul_le_mul_right _ hroom
      have hr := run_append_room (P := P) w t ty e i ht hi g n cap cur hg a m c news (by rw [hsize]; exact hl) hnews h1 hroom hfit
      rw [hrun] at hr
      injection hr with e1 e2
      subst e1
      exact fun k hk => Or.inl hk
    · have holds : ∀ j u, xs[j]? = some u → w.cell? ((⟨g, 0, none⟩ : Addr).add j) = some u := World.ownsRow.cells hown (g := g) rfl
      obtain ⟨v2, w2, hrun2, q1, _⟩ := run_append_arg_grows (P := P) w t ty e i z size bytes ht hi hz hsize hby hzs hsz ⟨g, 0, none⟩ n cap xs hown.1 holds a m c news hl hnews (by omega) h63 hbytes
      rw [hrun] at hrun2
      injection hrun2 with e1 e2
      subst e1 e2
      exact fun k hk => Or.inr (World.ownsRow.lt q1 k hk.symm).1
/-- append on a row of the call's own, as one step of a region that draws: in its own block, or in a new one. -/
theorem step_append_mine {P : Program} {ops : Array Oper} {o : Oper} {a : Act} {w : World} {K : Act → World → Prop} {Q : Exit → Act → World → Prop} {E : Prop}
    (hg : o.guard = none) (s x : Operand) (t : TypeId) (hop : o.op = Op.call { callee := Callee.builtin Builtin.append, args := #[s, x], argTypes := #[t, t] })
    (base : Nat) (e : TypeId) (i : TypeInfo) (z : Value) (size bytes : Nat) (h1 : P.underlying t = some (.slice e)) (h2 : P.info? e = some i) (h3 : i.zero = some z) (h4 : i.size = size) (h5 : i.bytes = bytes) (h6 : z.cells.size = size) (h7 : 0 < size)
    (v : Value) (n : Nat) (xs : List Value) (hs : a.eval s = v) (hown : w.ownsRow base e size v n xs)
    (ad : Addr) (m c : Nat) (news : List Value) (hx : a.eval x = .slice (some ad) m c) (hn : news.length = m * size) (hc : ∀ j u, news[j]? = some u → w.cell? (ad.add j) = some u) (h1c : ∀ u ∈ news, u.oneCell' = true)
    (b1 : n + m ≤ maxLen) (b2 : (n + m) * bytes ≤ 140737488355328) (b3 : base ≤ w.heap.size)
    (hK : ∀ v' w', w'.ownsRow base e size v' (n + m) (xs ++ news) → w.grownBy w' v.ownBlock → (∀ k, some k = v'.ownBlock → some k = v.ownBlock ∨ w.heap.size ≤ k) → K (a.put o.dst v') w') :
    if Region.wanted o (yielded ops a.tmps) = true then Oper.wp P o a w K Q else E := by
  have hw : Region.wanted o (yielded ops a.tmps) = true := by simp [Region.wanted, hg]
  rw [if_pos hw]
  obtain ⟨v', w', hrun, r1, r2, r3⟩ := run_append_mine (P := P) w base t o.type e i z size bytes h1 h2 h3 h4 h5 h6 h7 v n xs hown ad m c news hn hc h1c b1 b2 b3
  unfold Oper.wp
  simp [execOp, hop, resolve, invoke, builtin, hs, hx, hrun, Result.andThen]
  exact hK v' w' r1 r2 r3

/-- What a sum leaves. -/
structure Done (B F : Nat) (rv v v' : Value) (ts : List ByteArray) (w w' : World) : Prop where
  fo : Fo w' B F rv v' ts
  turn : Turn (Mine F v) w w'
  own : ∀ k, some k = v'.ownBlock → some k = v.ownBlock ∨ w.heap.size ≤ k

theorem own_slice {w : World} {B n : Nat} {t : TypeId} {v : Value} {xs : List Value} (h : w.ownsRow B t 1 v n xs) : ∃ p cap, v = .slice p n cap := by
  rcases h.2 with ⟨rfl, rfl⟩ | ⟨g, cap, _, rfl, _⟩
  · exact ⟨none, 0, rfl⟩
  · exact ⟨_, cap, rfl⟩
/-- The Fold's own block stays under an append to its texts. -/
theorem fo_grown {B F : Nat} {rv v : Value} {ts : List ByteArray} {w w' : World} {o : Obj} (h : Fo w B F rv v ts) (hg : (w.alloc o).grownBy w' v.ownBlock) : Box w' F 104 [rv, v] := by
  have hlt := h.box.lt
  unfold Box
  rw [hg.block F (by simp; omega) h.ne, Below.heap_alloc _ _ _ hlt]
  exact h.box
theorem grown_turn {B F : Nat} {rv v : Value} {ts : List ByteArray} {w w' : World} {o : Obj} (_h : Fo w B F rv v ts) (hg : (w.alloc o).grownBy w' v.ownBlock) : Turn (Mine F v) w w' :=
  ⟨hg.os, hg.tape, hg.output, by have := hg.size; simp at this; omega, fun k hk hX => by
    rw [hg.block k (by simp; omega) (fun he => hX (Or.inr he)), Below.heap_alloc _ _ _ hk]⟩
/-- What the append and the store leave. -/
theorem Done.of {B F : Nat} {rv v v' : Value} {ts : List ByteArray} {s : ByteArray} {w w2 w4 : World} {o : Obj} (h : Fo w2 B F rv v ts) (hb : Below w.heap.size w w2) (hF : F < w.heap.size) (hs : s.size ≤ 64) (ht : ts.length < 4000)
    (ho : w4.ownsRow B 9 1 v' (ts.length + 1) (ts.map Value.string ++ [.string s])) (hg : (w2.alloc o).grownBy w4 v.ownBlock) (hn : ∀ k, some k = v'.ownBlock → some k = v.ownBlock ∨ (w2.alloc o).heap.size ≤ k) :
    Done B F rv v v' (ts ++ [s]) w (w4.setCell ⟨F, 1, none⟩ v') := by
  have hlt := h.box.lt
  have hO : Own w4 B v' (ts ++ [s]) := by
    unfold Own
    rw [List.length_append, List.map_append]
    exact ho
  have hbox := fo_grown h hg
  have hne : some F ≠ v'.ownBlock := by
    intro he
    rcases hn F he with h1 | h1
    · exact h.ne h1
    · simp at h1
      omega
  have hT : Turn (fun k => k = F) w4 (w4.setCell ⟨F, 1, none⟩ v') := (Turn.refl (fun k => k = F) w4).setCell (fun _ => rfl) v'
  refine ⟨⟨h.le, hbox.set 1 v', hO.turn hT ?_, by rw [List.length_append, List.length_singleton]; omega, ?_⟩, ?_, ?_⟩
  · rintro k hk rfl
    exact hne hk
  · intro x hx
    rcases List.mem_append.1 hx with hx | hx
    · exact h.size x hx
    · rw [List.mem_singleton.1 hx]; exact hs
  · refine ((Turn.of (X := Mine F v) hb).trans (grown_turn h hg) (fun _ _ h => h)).trans hT ?_
    rintro k _ rfl
    exact Or.inl rfl
  · intro k hk
    rcases hn k hk with h1 | h1
    · exact Or.inl h1
    · have := hb.size
      simp at h1
      exact Or.inr (by omega)
theorem Done.then {B F : Nat} {rv v v' : Value} {ts : List ByteArray} {w w1 w2 : World} (h : Done B F rv v v' ts w w1) (hb : Below w1.heap.size w1 w2) : Done B F rv v v' ts w w2 :=
  ⟨h.fo.grow hb, h.turn.then hb, h.own⟩

set_option maxRecDepth 100000 in
set_option maxHeartbeats 4000000 in
theorem tfsum_any (B F : Nat) (rv v : Value) (ts : List ByteArray) (b o cap : Nat) (ss : List ByteArray) (s : ByteArray) (w : World) (h : Fo w B F rv v ts) (hB : B ≤ w.heap.size) (hr : Row w (some ⟨b, o, none⟩) ss) (hm : ¬ Mine F v b) (hne : ss ≠ []) (hc : ss.length ≤ cap) (hl : ss.length ≤ 40) (hs : Pl.cat ss = s.data.toList) (hz : s.size ≤ 64) (ht : ts.length < 4000) :
    Calls Tryz.prog 90 #[.pointer (some ⟨F, 0, none⟩), .slice (some ⟨b, o, none⟩) ss.length cap] w fun e w' => e = .returned (.string (Pl.sumB s)) ∧ ∃ v', Done B F rv v v' (ts ++ [s]) w w' := by
  obtain ⟨i0, hinf, hz0, hz1, hz2⟩ := info_parts infoStr
  have hsz : s.data.toList.length = s.size := by simp
  have HJ : Hid (∀ w, Row w (some ⟨b, o, none⟩) ss → Calls Tryz.prog 99 #[.slice (some ⟨b, o, none⟩) ss.length cap, .string ⟨#[]⟩] w fun e w' => e = .returned (.string s) ∧ Below w.heap.size w w') := fun w hr => by
    have := tjoin_any b o cap ss w hr hne hc hl (by rw [hs]; omega)
    rwa [hs, show (⟨s.data.toList.toArray⟩ : ByteArray) = s from ByteArray.ext (by simp)] at this
  have HO : Hid (∀ w, Row w (some ⟨b, o, none⟩) ss → Calls Tryz.prog 73 #[.slice (some ⟨b, o, none⟩) ss.length cap] w fun e w' => e = .returned (.string (Pl.sumB s)) ∧ Below w.heap.size w w') := fun w hr => of_of (some ⟨b, o, none⟩) cap ss s.data.toList w hr hs
  have HF : Hid _ := h
  have HR : Hid _ := hr
  have c0 := h.box.cell 0
  have c1 := h.box.cell 1
  have lF := h.box.lt
  clear h hr
  generalize Pl.sumB s = N at *
  go_enter Tryz.func90, Tryz.ntmps90
  go_wp2_with fail
  go_region_law (first
    | (refine step_append_mine rfl (.tmp 9) (.tmp 12) 32 rfl B 9 i0 (.string ByteArray.empty) 1 16 Tryz.underlying32 hinf hz0 hz1 hz2 rfl (by decide) v _ _ rfl (HF2.out.own.alloc _) ⟨w2.heap.size, 0, none⟩ 1 1 [.string s] rfl rfl (cell_one_new _ _ _) one_cell (by unfold maxLen; omega) (by omega) (by simp; omega) ?_; intro v4 w4 ho4 hg4 hn4; obtain ⟨p4, c4, rfl⟩ := own_slice ho4; have hF4 := fo_grown HF2.out hg4; have d0 := hF4.cell 0; have d1 := hF4.cell 1; have f1 := hF4.frozen 1; have lF4 := hF4.lt)
    | (go_simp; go_at_call 99; refine (HJ.out _ HR.out.drew).mono ?_; rintro e w2 ⟨rfl, hb1⟩; have hb2 : Below w.heap.size w w2 := (Below.refl _ w).drew.trans hb1; have HF2 : Hid _ := HF.out.grow (w' := w2) hb2; have hs2 := hb2.size; have e0 := HF2.out.box.cell 0; have e1 := HF2.out.box.cell 1; have lF2 := HF2.out.box.lt))
  all_goals
    have HD : Hid _ := Done.of (s := s) HF2.out (w := w) hb2 lF hz ht ho4 hg4 hn4
    have hR5 := HR.out.turn HD.out.turn (fun b' o' _ he => by simp only [Option.some.injEq, Addr.mk.injEq, and_true] at he; rw [← he.1]; exact hm)
    have HR5 : Hid _ := hR5
    clear hR5
    go_wp2_with fail
    refine (HO.out _ HR5.out).mono ?_
    rintro e w5 ⟨rfl, hb5⟩
    go_wp2_with fail
    go_ret
    exact ⟨rfl, _, HD.out.then hb5⟩

/-- The sum of a node. -/
theorem fo_node (B F : Nat) (rv v : Value) (ts : List ByteArray) (a b : ByteArray) (w : World) (h : Fo w B F rv v ts) (hB : B ≤ w.heap.size) (ha : a.size = 4) (hb : b.size = 4) (hl : ts.length < 4000) :
    Calls Tryz.prog 90 #[.pointer (some ⟨F, 0, none⟩), .slice (some ⟨w.heap.size, 0, none⟩) 3 3] (w.alloc (.cells #[.string ⟨#[78]⟩, .string a, .string b] 9)).drew fun e w' => e = .returned (.string (Pl.sumB (Pl.textN a b))) ∧ ∃ v', Done B F rv v v' (ts ++ [Pl.textN a b]) w w' := by
  have hw : Below w.heap.size w (w.alloc (.cells #[.string ⟨#[78]⟩, .string a, .string b] 9)).drew := ((Below.refl _ w).alloc (Nat.le_refl _) _).drew
  have hR : Row (w.alloc (.cells #[.string ⟨#[78]⟩, .string a, .string b] 9)).drew (some ⟨w.heap.size, 0, none⟩) [⟨#[78]⟩, a, b] := Row.drew (Row.lit w [⟨#[78]⟩, a, b] (by simp [maxLen]) (lit3 (by decide) (by rw [ha]; decide) (by rw [hb]; decide)))
  have h1 := tfsum_any B F rv v ts w.heap.size 0 3 [⟨#[78]⟩, a, b] (Pl.textN a b) _ (h.grow hw) (Nat.le_trans hB hw.size) hR (by
    rintro (h1 | h1)
    · have := h.box.lt; omega
    · have := h.own.lt _ h1; omega) (by simp) (by simp) (by simp) (by rw [cat3]; unfold Pl.textN; simp [ByteArray.data_append]) (by rw [Pl.size_textN]; omega) hl
  refine h1.mono fun e w' ⟨he, v', hd⟩ => ⟨he, v', hd.fo, (Turn.of (X := Mine F v) hw).trans hd.turn (fun _ _ h => h), fun k hk => ?_⟩
  rcases hd.own k hk with h2 | h2
  · exact Or.inl h2
  · exact Or.inr (Nat.le_trans hw.size h2)
theorem size_textL (a : ByteArray) : (Pl.textL a).size = 1 + a.size := by
  unfold Pl.textL
  simp only [ByteArray.size_append]
  rfl
/-- The sum of a leaf. -/
theorem fo_leaf (B F : Nat) (rv v : Value) (ts : List ByteArray) (a : ByteArray) (w : World) (h : Fo w B F rv v ts) (hB : B ≤ w.heap.size) (ha : a.size ≤ 30) (hl : ts.length < 4000) :
    Calls Tryz.prog 90 #[.pointer (some ⟨F, 0, none⟩), .slice (some ⟨w.heap.size, 0, none⟩) 2 2] (w.alloc (.cells #[.string ⟨#[76]⟩, .string a] 9)) fun e w' => e = .returned (.string (Pl.sumB (Pl.textL a))) ∧ ∃ v', Done B F rv v v' (ts ++ [Pl.textL a]) w w' := by
  have hw : Below w.heap.size w (w.alloc (.cells #[.string ⟨#[76]⟩, .string a] 9)) := (Below.refl _ w).alloc (Nat.le_refl _) _
  have hR : Row (w.alloc (.cells #[.string ⟨#[76]⟩, .string a] 9)) (some ⟨w.heap.size, 0, none⟩) [⟨#[76]⟩, a] := Row.lit w [⟨#[76]⟩, a] (by simp [maxLen]) (lit2 (by decide) (Nat.le_trans ha (by decide)))
  have h1 := tfsum_any B F rv v ts w.heap.size 0 2 [⟨#[76]⟩, a] (Pl.textL a) _ (h.grow hw) (Nat.le_trans hB hw.size) hR (by
    rintro (h1 | h1)
    · have := h.box.lt; omega
    · have := h.own.lt _ h1; omega) (by simp) (by simp) (by simp) (by rw [cat2]; unfold Pl.textL; simp [ByteArray.data_append]) (by rw [size_textL]; omega) hl
  refine h1.mono fun e w' ⟨he, v', hd⟩ => ⟨he, v', hd.fo, (Turn.of (X := Mine F v) hw).trans hd.turn (fun _ _ h => h), fun k hk => ?_⟩
  rcases hd.own k hk with h2 | h2
  · exact Or.inl h2
  · exact Or.inr (Nat.le_trans hw.size h2)
end Go.Proofs.YtkhnjipjbhcgdaaGreat
