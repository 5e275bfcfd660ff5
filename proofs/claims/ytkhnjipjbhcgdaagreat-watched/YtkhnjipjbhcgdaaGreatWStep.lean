import Derived.Test.YtkhnjipjbhcgdaaGreatWDoes2
import Derived.Test.YtkhnjipjbhcgdaaGreatPaths
import Derived.Test.YtkhnjipjbhcgdaaGreatTree
/-
  THE WALK of (*treeheadlaw.World).step.
-/
namespace Go.Proofs.YtkhnjipjbhcgdaaGreat
open Go.RowKit Hp

set_option maxRecDepth 100000 in
set_option maxHeartbeats 400000 in
theorem pickl_any (c n : Int) (w : World) (hc : Fits c) (hn : 0 < n) (hn2 : n ≤ 9223372036854775807) :
    Calls Tryz.prog 17 #[.int .i64 c, .int .i64 n] w fun e w' => e = .returned (.int .i64 (pickOf c n)) ∧ w' = w := by
  obtain ⟨hc1, hc2⟩ := hc
  by_cases h : c < 0
  · have hp : pickOf c n = (-(c + 1)) % n := by unfold pickOf; rw [if_pos h]
    go_enter Tryz.func17, Tryz.ntmps17
    go_wp2
    all_goals go_ret
    all_goals exact ⟨ret_int (by rw [← Int.neg_tmod, Int.tmod_eq_emod_of_nonneg (by omega), hp]), rfl⟩
  · have hp : pickOf c n = c % n := by unfold pickOf; rw [if_neg h]
    go_enter Tryz.func17, Tryz.ntmps17
    go_wp2
    all_goals go_ret
    all_goals exact ⟨rfl, rfl⟩

/-- One step of a script. -/
structure OpRec where
  kind : Int
  wat : Int
  N : Int
  b : ByteArray
  pt : Option Addr
  ct : Nat
  ts : List ByteArray
  a1 : Int
  a2 : Int
  al : ByteArray
  pa : Option Addr
  ca : Nat
  qs : List ByteArray
def OpRec.cells (o : OpRec) : List Value := [.int .i64 o.kind, .int .i64 o.wat, .int .i64 o.N, .string o.b, .slice o.pt o.ts.length o.ct, .int .i64 o.a1, .int .i64 o.a2, .string o.al, .slice o.pa o.qs.length o.ca]
structure OpOk (W : World) (o : OpRec) : Prop where
  wat : Fits o.wat
  ts : Row W o.pt o.ts
  tsI : Inc o.pt o.ct o.ts
  al : o.al.size ≤ maxLen
  qs : Row W o.pa o.qs
  qsI : Inc o.pa o.ca o.qs
theorem Inc.isRow {w : World} {p : Option Addr} {c : Nat} {ss : List ByteArray} (h : Inc p c ss) (hr : Row w p ss) : IsRow w (.slice p ss.length c) ss := by
  rcases h with ⟨rfl, rfl, rfl⟩ | ⟨⟨a, rfl⟩, h1, h2⟩
  · exact Or.inl ⟨rfl, rfl⟩
  · exact Or.inr ⟨a, c, rfl, h1, h2, hr⟩

/-- The law's World between two steps. -/
def Sx (W w : World) (W0 N M : Nat) : Prop := ∃ n m P v1 v2 v3 L1 L3, 1 ≤ n ∧ n ≤ N ∧ m ≤ M ∧ St w W.heap.size W0 n m (3 * m) P v1 v2 v3 L1 L3 ∧ Below W.heap.size W w
theorem Sx.mono {W w : World} {W0 N M N' M' : Nat} (h : Sx W w W0 N M) (hN : N ≤ N') (hM : M ≤ M') : Sx W w W0 N' M' := by
  obtain ⟨n, m, P, v1, v2, v3, L1, L3, h1, h2, h3, hS, hB⟩ := h
  exact ⟨n, m, P, v1, v2, v3, L1, L3, h1, by omega, by omega, hS, hB⟩
theorem Sx.grow {W w w' : World} {W0 N M : Nat} (h : Sx W w W0 N M) (hb : Below w.heap.size w w') : Sx W w' W0 N M := by
  obtain ⟨n, m, P, v1, v2, v3, L1, L3, h1, h2, h3, hS, hB⟩ := h
  exact ⟨n, m, P, v1, v2, v3, L1, L3, h1, h2, h3, hS.grow hb, hB.trans (hb.mono hB.size)⟩
theorem Sx.below {W w : World} {W0 N M : Nat} (h : Sx W w W0 N M) : Below W.heap.size W w := by
  obtain ⟨n, m, P, v1, v2, v3, L1, L3, h1, h2, h3, hS, hB⟩ := h
  exact hB
theorem watch_any (W w : World) (W0 N M : Nat) (key : Int) (h : Sx W w W0 N M) (hN : N ≤ 1200000000010) :
    Calls Tryz.prog 4 #[.pointer (some ⟨W0, 0, none⟩), .int .i64 key] w fun e w' => e = .returned (.bool true) ∧ Sx W w' W0 (N + 1) (M + 1) := by
  cases hk : Pl.keyB key with
  | false =>
    refine (watch_no key W0 w hk).mono ?_
    rintro e w' ⟨rfl, rfl⟩
    exact ⟨rfl, h.mono (by omega) (by omega)⟩
  | true =>
    obtain ⟨n, m, P, v1, v2, v3, L1, L3, h1, h2, h3, hS, hB⟩ := h
    refine (watch_yes key w _ W0 n m (3 * m) P v1 v2 v3 L1 L3 hS hk hB.size (by omega)).mono ?_
    rintro e w' ⟨rfl, v1', P', hS', hB'⟩
    exact ⟨rfl, n + 1, m, P', v1', v2, v3, L1, L3, by omega, by omega, by omega, hS', hB.trans hB'⟩
theorem takes_all (W w w' : World) (W0 N M : Nat) (h : Sx W w W0 N M) (hb : Below w.heap.size w w') (v : Value) (ss : List ByteArray) (ho : Own w' w.heap.size v ss) (hl : ss.length ≤ 200) (hM : M ≤ 1200000000000) :
    Calls Tryz.prog 15 #[.pointer (some ⟨W0, 0, none⟩), v] w' fun e w'' => e = .returned (.tuple #[]) ∧ Sx W w'' W0 (N + 1) (M + 1) := by
  obtain ⟨n, m, P, v1, v2, v3, L1, L3, h1, h2, h3, hS, hB⟩ := h
  refine (takes_any w w' _ W0 n m P v1 v2 v3 L1 L3 hS hb v ss ho hl (by omega) hB.size).mono ?_
  rintro e w'' ⟨rfl, v2', v3', L1', L3', hS', hB'⟩
  exact ⟨rfl, n, m + 1, P, v1, v2', v3', L1', L3', h1, by omega, by omega, hS', hB.trans hB'⟩
theorem does_any (W w : World) (r : PRec) (h : PrOk w W.heap.size r) (hk : Below W.heap.size W w) (o : OpRec) (ho : OpOk W o) (hkd : o.kind = 2 ∨ o.kind = 3 ∨ o.kind = 4 ∨ o.kind = 5) :
    Calls Tryz.prog 18 #[.pointer (some ⟨r.pb, 0, none⟩), .agg o.cells.toArray] w fun e w' => e = .returned (.bool true) ∧ Did W.heap.size r w w' := by
  obtain ⟨kind, wat, N, b, pt, ct, ts, a1, a2, al, pa, ca, qs⟩ := o
  rcases hkd with e | e | e | e
  all_goals
    simp only at e
    subst e
  · exact does_update W w r h hk wat N b pt ct ts ho.ts ho.tsI a1 a2 al pa qs.length ca
  · exact does_holds W w r h hk wat N b pa ca qs ho.qs ho.qsI a1 a2 al ho.al pt ts.length ct
  · exact does_head W w r h wat N b pt ts.length ct a1 a2 al pa qs.length ca
  · exact does_close W w r h wat N b pt ts.length ct a1 a2 al pa qs.length ca
theorem inclP_short (ss : List ByteArray) (c : Int) : (inclP ss c).length ≤ 200 := by
  unfold inclP
  split
  · rename_i h
    have h1 := (okB_yes (inclB_yes h).1).1
    have := Pl.path_length ss.length ss c.toNat (Nat.le_refl _)
    omega
  · simp
theorem extP_short (ss : List ByteArray) (c : Int) : (extP ss c).length ≤ 200 := by
  unfold extP
  split
  · rename_i h
    obtain ⟨hok, i, rfl, h1, h2⟩ := extB_yes h
    have h1 := (okB_yes hok).1
    have := Pl.parts_length ss.length ss (Int.toNat i) true (Nat.le_refl _) (by simpa using by omega) (by simpa using by omega)
    omega
  · simp
end Go.Proofs.YtkhnjipjbhcgdaaGreat
