/-
  THE WALK of treeheadkeep.Shown.
-/
import Derived.Test.YtkhnjipjbhcgdabPlainX
import Derived.Test.YtkhnjipjbhcgdabTExt2
import Derived.Test.YtkhnjipjbhcgdabKRows
import Derived.Test.YtkhnjipjbhcgdabOpen2
namespace Go.Proofs.Ytkhnjipjbhcgdab
open Go.RowKit

theorem Own.any {w : World} {B : Nat} {v : Value} {ss : List ByteArray} (h : Own w B v ss) (hs : ∀ s ∈ ss, s.size = 4) (hl : ss.length ≤ maxLen) : ∃ p cap, v = .slice p ss.length cap ∧ ss.length ≤ cap ∧ cap ≤ maxLen ∧ Row w p ss ∧ (p = none → ss.length = 0) := by
  by_cases h0 : ss = []
  · subst h0
    rcases h.2 with ⟨rfl, _⟩ | ⟨g, cap, cur, rfl, hb, hg, hc, hm, hz, ht⟩
    · exact ⟨none, 0, rfl, Nat.le_refl _, by decide, row_nil w, fun _ => rfl⟩
    · exact ⟨some ⟨g, 0, none⟩, cap, rfl, hc, hm, ⟨by simp, by simp, Or.inl rfl⟩, fun hh => by cases hh⟩
  · obtain ⟨g, cap, h1, _, h2, h3, h4⟩ := h.open h0 (fun s hx => by rw [hs s hx]; decide) hl
    exact ⟨_, cap, h1, h2, h3, h4, fun hh => by cases hh⟩

/-- append where there is no room, as one step of a region that draws. -/
theorem step_append_grows {P : Program} {ops : Array Oper} {o : Oper} {a : Act} {w : World} {K : Act → World → Prop} {Q : Exit → Act → World → Prop} {E : Prop}
    (hg : o.guard = none) (s x : Operand) (t : TypeId) (hop : o.op = Op.call { callee := Callee.builtin Builtin.append, args := #[s, x], argTypes := #[t, t] })
    (e : TypeId) (i : TypeInfo) (z : Value) (size bytes : Nat) (h1 : P.underlying t = some (.slice e)) (h2 : P.info? e = some i) (h3 : i.zero = some z) (h4 : i.size = size) (h5 : i.bytes = bytes) (h6 : z.cells.size = size) (h7 : 0 < size)
    (ao : Option Addr) (n cap : Nat) (olds : List Value) (hs : a.eval s = .slice ao n cap) (hnone : ao = none → n = 0 ∧ cap = 0) (hlo : olds.length = n * size) (holds : ∀ b, ao = some b → ∀ j u, olds[j]? = some u → w.cell? (b.add j) = some u)
    (ad : Addr) (m c : Nat) (news : List Value) (hx : a.eval x = .slice (some ad) m c) (hn : news.length = m * size) (hc : ∀ j u, news[j]? = some u → w.cell? (ad.add j) = some u) (h1c : ∀ u ∈ news, u.oneCell' = true)
    (hfull : cap < n + m) (b1 : n + m ≤ maxLen) (b2 : (n + m) * bytes ≤ 140737488355328)
    (hK : ∀ v' w', w'.ownsRow w.heap.size e size v' (n + m) (olds ++ news) → w.grownBy w' none → K (a.put o.dst v') w') :
    if Region.wanted o (yielded ops a.tmps) = true then Oper.wp P o a w K Q else E := by
  have hw : Region.wanted o (yielded ops a.tmps) = true := by simp [Region.wanted, hg]
  rw [if_pos hw]
  cases ao with
  | some b =>
    obtain ⟨v', w', hrun, r1, r2⟩ := run_append_arg_grows (P := P) w t o.type e i z size bytes h1 h2 h3 h4 h5 h6 h7 b n cap olds hlo (holds b rfl) ad m c news hn hc hfull b1 b2
    unfold Oper.wp
    simp [execOp, hop, resolve, invoke, builtin, hs, hx, hrun, Result.andThen]
    exact hK v' w' r1 r2
  | none =>
    obtain ⟨rfl, rfl⟩ := hnone rfl
    obtain rfl : olds = [] := List.eq_nil_of_length_eq_zero (by simpa using hlo)
    obtain ⟨v', w', hrun, r1, r2, _⟩ := run_append_own (P := P) w w.heap.size t o.type e i z size bytes h1 h2 h3 h4 h5 h6 h7 (.slice none 0 0) 0 [] (World.ownsRow_nil w _ e size) ad m c news hn hc h1c b1 b2 (Nat.le_refl _)
    unfold Oper.wp
    simp [execOp, hop, resolve, invoke, builtin, hs, hx, hrun, Result.andThen]
    exact hK v' w' (by simpa using r1) r2

theorem ansB_at (n i : Nat) (s : ByteArray) (hn : n ≤ 40) (hi : i < n) (hs : s.size ≤ 30) : Pl.ansB (n : Int) (i : Int) s = true := by
  unfold Pl.ansB
  simp only [Bool.and_eq_true, decide_eq_true_iff]
  exact ⟨⟨⟨⟨by omega, by omega⟩, by omega⟩, by omega⟩, hs⟩
theorem incl_made (L : List ByteArray) (i : Nat) (hi : i < L.length) (h40 : L.length ≤ 40) (hs : ∀ s ∈ L, s.size ≤ 30) : inclA (Pl.root L) L.length i L[i] (Pl.path L i) = 0 := by
  obtain ⟨t, ht⟩ := Pl.leafT_path L.length L i hi rfl
  unfold inclA
  rw [if_pos ⟨Pl.root_isSum L, ansB_at _ _ _ h40 hi (hs _ (List.getElem_mem _))⟩, Int.toNat_natCast, Int.toNat_natCast, ht]
  exact if_pos rfl
theorem incl_long (L : List ByteArray) (i : Nat) (hi : i < L.length) (h40 : L.length ≤ 40) (hs : ∀ s ∈ L, s.size ≤ 30) (r : ByteArray) : inclA (Pl.root L) L.length i L[i] (Pl.path L i ++ [r]) = 6 := by
  have ht := Pl.leafT_long L i hi r
  unfold inclA
  rw [if_pos ⟨Pl.root_isSum L, ansB_at _ _ _ h40 hi (hs _ (List.getElem_mem _))⟩, Int.toNat_natCast, Int.toNat_natCast, ht]
theorem ext_made (L : List ByteArray) (m : Nat) (h1 : 1 ≤ m) (h2 : m ≤ L.length) (h40 : L.length ≤ 40) : extA m (Pl.root (L.take m)) L.length (Pl.root L) (Pl.parts L m true) = 0 := by
  obtain ⟨t, ht⟩ := Pl.bothT_parts L.length L m true (Pl.root (L.take m)) rfl (by omega) h1 h2 (fun _ => rfl)
  unfold extA
  rw [if_pos ⟨Pl.root_isSum _, Pl.root_isSum _, by omega, by omega, by omega⟩, Int.toNat_natCast, Int.toNat_natCast, ht]
  exact if_pos ⟨rfl, rfl⟩

theorem row_cells {w w' : World} {p : Option Addr} {ss : List ByteArray} {b : Addr} {j : Nat} {u : Value} (hr : Row w p ss) (hb : Below w.heap.size w w') (hp : p = some b) (hu : (ss.map Value.string)[j]? = some u) : w'.cell? (b.add j) = some u := by
  have hj : j < ss.length := by
    have := (List.getElem?_eq_some_iff.1 hu).1
    simpa using this
  rcases (hr.grow hb (Nat.le_refl _)).cell with h0 | ⟨g, o, he, _, hc⟩
  · rw [h0] at hj; cases hj
  · rw [hp] at he
    simp only [Option.some.injEq] at he
    subst he
    rw [add_plain, hc j hj]
    simpa [List.getElem?_eq_getElem hj] using hu
theorem own_more {w : World} {B B' : Nat} {v : Value} {ss : List ByteArray} {s : ByteArray} (hB : B ≤ B') (h : w.ownsRow B' 9 1 v (ss.length + 1) (ss.map Value.string ++ [.string s])) : Own w B v (ss ++ [s]) := by
  unfold Own
  rw [List.length_append, List.map_append]
  refine ⟨h.1, ?_⟩
  rcases h.2 with hn | ⟨g, cap, cur, hv, hb, rest⟩
  · exact Or.inl hn
  · exact Or.inr ⟨g, cap, cur, hv, Nat.le_trans hB hb, rest⟩

end Go.Proofs.Ytkhnjipjbhcgdab
