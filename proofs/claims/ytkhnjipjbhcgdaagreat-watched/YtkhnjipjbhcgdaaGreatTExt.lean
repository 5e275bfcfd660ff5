import Derived.Test.YtkhnjipjbhcgdaaGreatTIncl
/-
  THE WALKS of slices.Contains of sides, tree.FoldGrowth.
-/
namespace Go.Proofs.YtkhnjipjbhcgdaaGreat
open Go.RowKit Hp

theorem contains_first (S : List Bool) (k : Nat) (hk : k < S.length) (h : S[k] = true) : S.contains true = true := by
  rw [List.contains_iff_mem, ← h]
  exact List.getElem_mem _
theorem contains_none (S : List Bool) (h : ∀ k (hk : k < S.length), S[k] = false) : S.contains true = false := by
  cases hc : S.contains true with
  | false => rfl
  | true =>
    rw [List.contains_iff_mem] at hc
    obtain ⟨k, hk, he⟩ := List.getElem_of_mem hc
    rw [h k hk] at he
    cases he

set_option maxRecDepth 100000 in
set_option maxHeartbeats 1000000 in
theorem tcontains_any (q : Option Addr) (sc : Nat) (S : List Bool) (w : World) (hS : S.length ≤ 40) (hSr : SRow w q S) :
    Calls Tryz.prog 97 #[.slice q S.length sc, .int .i64 1] w fun e w' => e = .returned (.bool (S.contains true)) ∧ w' = w := by
  have HY : Hid (∀ k (hk : k < S.length), S[k] = true → S.contains true = true) := fun k hk h => contains_first S k hk h
  have HN : Hid ((∀ k (hk : k < S.length), S[k] = false) → S.contains true = false) := fun h => contains_none S h
  generalize S.contains true = x at *
  go_enter Tryz.func97, Tryz.ntmps97
  go_wp2
  go_loop [8] (fun i => ∃ k : Nat, k ≤ S.length ∧ i = .int .i64 k ∧ Hid (∀ j (hj : j < S.length), j < k → S[j] = false)) (fun i => S.length - (intOf i).toNat)
  case atStart => exact ⟨0, by omega, rfl, fun j hj h => by omega⟩
  case round =>
    obtain ⟨k, hk, rfl, HA⟩ := hrel
    by_cases hlt : k < S.length
    · rcases hSr with h0 | ⟨g, rfl, _, hside⟩
      · rw [h0] at hlt; exact absurd hlt (by simp)
      have hsk := hside k hlt
      cases hs : S[k] with
      | true =>
        have HX : Hid _ := HY.out k hlt hs
        rw [hs] at hsk
        unfold sideV at hsk
        simp only [if_true] at hsk
        clear hside hs
        go_wp2
        go_ret
        exact ⟨ret_bool HX.out.symm, rfl⟩
      | false =>
        have HX : Hid (∀ j (hj : j < S.length), j < k + 1 → S[j] = false) := by
          intro j hj hjk
          by_cases hjk2 : j < k
          · exact HA.out j hj hjk2
          · obtain rfl : j = k := by omega
            exact hs
        rw [hs] at hsk
        unfold sideV at hsk
        simp only [Bool.false_eq_true, if_false] at hsk
        clear hside hs
        go_wp2
        go_round
        case rel => exact ⟨k + 1, by omega, by go_num, HX⟩
        case measure => simp [intOf]; omega
    · have HX : Hid _ := HN.out fun j hj => HA.out j hj (by omega)
      go_wp2
      go_ret
      exact ⟨ret_bool HX.out.symm, rfl⟩

theorem climb_two (s : ByteArray) (S : List Bool) (P : List ByteArray) : ∃ a b, Pl.climb [s, s] S P = [a, b] := by
  have hcl : (Pl.climb [s, s] S P).length = 2 := Pl.climb_length _ _ _ (by simp)
  match Pl.climb [s, s] S P, hcl with
  | [a, b], _ => exact ⟨a, b, rfl⟩

theorem OwnS.open2 {w : World} {B : Nat} {v : Value} {S : List Bool} (h : OwnS w B v S) : ∃ q cap, v = .slice q S.length cap ∧ S.length ≤ cap ∧ cap ≤ maxLen ∧ SRow w q S ∧ (∀ g, q = some ⟨g, 0, none⟩ → g < w.heap.size) := by
  have hlt := World.ownsRow.lt h
  rcases h.2 with ⟨rfl, h0⟩ | ⟨g, cap, cur, rfl, hb, hg, hc, hm, hz, ht⟩
  · have : S = [] := List.eq_nil_of_length_eq_zero h0
    subst this
    exact ⟨none, 0, rfl, Nat.le_refl _, by decide, Or.inl rfl, fun g hg => by cases hg⟩
  · refine ⟨some ⟨g, 0, none⟩, cap, rfl, hc, hm, Or.inr ⟨g, rfl, (hlt g rfl).2, fun i hi => ?_⟩, fun g' hg' => ?_⟩
    · have := World.ownsRow.cells h (g := g) rfl i (sideV S[i]) (by simp [hi])
      rwa [Go.Proofs.YtkhnjipjbhcgdaaGreat.add_plain, Nat.zero_add] at this
    · simp only [Option.some.injEq, Addr.mk.injEq, and_true] at hg'
      rw [← hg']
      exact (hlt g rfl).2
/-- The climb of two roots that start alike, laid anew. -/
theorem climb_new (s : ByteArray) (S : List Bool) (P : List ByteArray) (q p : Option Addr) (sc cap : Nat) (W : World) (hs : s.size = 4) (hS : S.length ≤ 40) (hsr : SRow W q S) (hsB : ∀ g, q = some ⟨g, 0, none⟩ → g < W.heap.size) (hP : Row W p P) (hsc : S.length ≤ sc) (hscm : sc ≤ maxLen) :
    Calls Tryz.prog 91 #[.pointer (some ⟨W.heap.size + 1, 0, none⟩), .slice q S.length sc, .slice p P.length cap] ((W.alloc (.cells #[.string s, .string s] 9)).alloc (.cells #[.slice (some ⟨W.heap.size, 0, none⟩) 2 2, .slice none 0 0] 104)) fun e w' => e = .returned (.bool (Pl.climbB S P)) ∧ Below W.heap.size W w' ∧ (Pl.climbB S P = true → ∃ v', FoldOut W.heap.size W.heap.size v' ((Pl.climb [s, s] S P).map Value.string) (Pl.climbT [s, s] S P) w' ∧ Box w' (W.heap.size + 1) 104 [.slice (some ⟨W.heap.size, 0, none⟩) 2 2, v']) := by
  have hbox : Box ((W.alloc (.cells #[.string s, .string s] 9)).alloc (.cells #[.slice (some ⟨W.heap.size, 0, none⟩) 2 2, .slice none 0 0] 104)) (W.heap.size + 1) 104 [.slice (some ⟨W.heap.size, 0, none⟩) 2 2, .slice none 0 0] := by
    have := Box.new (W.alloc (.cells #[.string s, .string s] 9)) 104 [.slice (some ⟨W.heap.size, 0, none⟩) 2 2, .slice none 0 0]
    rwa [show (W.alloc (.cells #[.string s, .string s] 9)).heap.size = W.heap.size + 1 by simp] at this
  have hF : Fo ((W.alloc (.cells #[.string s, .string s] 9)).alloc (.cells #[.slice (some ⟨W.heap.size, 0, none⟩) 2 2, .slice none 0 0] 104)) W.heap.size (W.heap.size + 1) (.slice (some ⟨W.heap.size, 0, none⟩) 2 2) (.slice none 0 0) [] := ⟨by omega, hbox, own_nil _ _, by simp, by simp⟩
  have hR : Box ((W.alloc (.cells #[.string s, .string s] 9)).alloc (.cells #[.slice (some ⟨W.heap.size, 0, none⟩) 2 2, .slice none 0 0] 104)) W.heap.size 9 [.string s, .string s] := (Box.new W 9 [.string s, .string s]).alloc _
  have hb : Below W.heap.size W ((W.alloc (.cells #[.string s, .string s] 9)).alloc (.cells #[.slice (some ⟨W.heap.size, 0, none⟩) 2 2, .slice none 0 0] 104)) := ((Below.refl _ _).alloc (Nat.le_refl _) _).alloc (by simp) _
  have hm : ∀ k, k < W.heap.size → ¬ (k = W.heap.size ∨ Mine (W.heap.size + 1) (.slice none 0 0) k) := by
    rintro k hk (h | h | h)
    · omega
    · omega
    · cases h
  have hm2 : ¬ Mine (W.heap.size + 1) (.slice none 0 0) W.heap.size := by
    rintro (h | h)
    · omega
    · cases h
  have h := tclimb_any W.heap.size (W.heap.size + 1) W.heap.size [s, s] (.slice none 0 0) [] S P q p sc cap _ (Or.inr rfl) hb.size (Nat.le_refl _) hF hR hm2 (fun x hx => by simp at hx; rw [hx]; exact hs) (by simp) hS (hsr.turn (X := fun _ => False) (Turn.of hb) (fun _ _ hh => hh)) (fun g hg => hm g (hsB g hg)) (hP.grow hb (Nat.le_refl _)) (fun b o hne hp => hm b (hP.lt b o hne hp)) hsc hscm
  refine h.mono fun e w' ⟨he, hbt, hc⟩ => ⟨he, hb.trans hbt, fun hcc => ?_⟩
  obtain ⟨v', hst⟩ := hc hcc
  exact ⟨v', ⟨Nat.le_refl _, hst.roots, hst.fo.own, hst.fo.size⟩, hst.fo.box⟩

theorem grow_no {old : ByteArray} {m n : Nat} {P : List ByteArray} (h1 : 1 ≤ m) (h2 : m ≤ n) (h : Pl.bothT old m n true P = none) : Pl.growth old (Pl.gsides m n) true P = none := by
  have hT := Pl.bothT_growth old n m true P h1 h2
  rw [h] at hT
  exact hT.symm
theorem grow_yes {old : ByteArray} {m n : Nat} {P t : List ByteArray} {a b : ByteArray} (h1 : 1 ≤ m) (h2 : m ≤ n) (h : Pl.bothT old m n true P = some (t, a, b)) : Pl.growth old (Pl.gsides m n) true P = some (a, b) ∧ t = Pl.growthT old (Pl.gsides m n) true P := by
  have hT := Pl.bothT_growth old n m true P h1 h2
  rw [h] at hT
  exact ⟨hT.symm, Pl.bothT_texts old n m true P t a b h1 h2 h⟩

set_option maxRecDepth 100000 in
set_option maxHeartbeats 4000000 in
theorem tgrow_Ay (old : ByteArray) (m n : Nat) (P : List ByteArray) (p : Option Addr) (cap : Nat) (w : World) (h4 : old.size = 4) (h1 : 1 ≤ m) (h2 : m ≤ n) (h40 : n ≤ 40) (hPr : Row w p P) (hcon : (Pl.gsides m n).contains true = false) (hc : Pl.climbB (Pl.gsides m n) P = true) (x y : ByteArray) (hxy : (Pl.climb [old, old] (Pl.gsides m n) P).map Value.string = [.string x, .string y]) :
    Calls Tryz.prog 88 #[.string old, .int .i64 m, .int .i64 n, .slice p P.length cap] w fun e w' => ∃ R v, e = .returned (.tuple #[.agg #[.slice (some ⟨R, 0, none⟩) 2 2, v], .bool true]) ∧ FoldOut w.heap.size R v [.string x, .string y] (Pl.climbT [old, old] (Pl.gsides m n) P) w' ∧ Below w.heap.size w w' := by
  have HG : Hid (∀ w, Calls Tryz.prog 96 #[.int .i64 ((m : Int) - 1), .int .i64 n] w fun e w' => ∃ v, e = .returned v ∧ OwnS w' w.heap.size v (Pl.gsides m n) ∧ Below w.heap.size w w') := fun w => by
    have := tgsides_any n (m - 1) w h40 (by omega)
    rwa [show ((m - 1 : Nat) : Int) = (m : Int) - 1 by omega, show m - 1 + 1 = m by omega] at this
  have hSl := Nat.le_trans (Pl.gsides_length n m h1 h2) h40
  have HPr : Hid _ := hPr
  clear hPr
  generalize Pl.gsides m n = S at *
  go_enter Tryz.func88, Tryz.ntmps88
  go_wp2_with fail
  refine (HG.out _).mono ?_
  rintro e w1 ⟨v1, rfl, ho1, hb1⟩
  obtain ⟨q, sc, rfl, hsc, hscm, hsr, hsB⟩ := ho1.open2
  have hk1 : Below w.heap.size w w1 := ((Below.refl _ w).alloc (Nat.le_refl _) _).trans (hb1.mono (by simp))
  have hRes1 : Box w1 w.heap.size 104 [.slice none 0 0, .slice none 0 0] := (Box.new w 104 [.slice none 0 0, .slice none 0 0]).grow hb1 (by simp)
  have HT : Hid _ := fun w (h : SRow w q S) => tcontains_any q sc S w hSl h
  rw [hcon] at HT
  clear hb1
  have hP1 := HPr.out.grow hk1 (Nat.le_refl _)
  go_wp2_with fail
  refine (HT.out _ hsr).mono ?_
  rintro e w2 ⟨rfl, rfl⟩
  have HC : Hid _ := climb_new old S P q p sc cap w2 h4 hSl hsr hsB hP1 hsc hscm
  have hRes2 := hRes1
  clear hsr hsB hP1 ho1 HT HPr hRes1
  rw [hc] at HC
  go_wp2_with fail
  refine Calls.mono HC.out ?_
  rintro e w5 ⟨rfl, hb5, hst⟩
  have hRes5 := hRes2.grow hb5 hRes2.lt
  have hk5 := hk1.trans (hb5.mono hk1.size)
  have g0 := hRes5.cell 0
  have g1 := hRes5.cell 1
  have f0 := hRes5.frozen 0
  have f1 := hRes5.frozen 1
  have lR := hRes5.lt
  clear HC hb5
  obtain ⟨v6, hfo, hF6⟩ := hst (by first | rfl | trivial)
  have HFO : Hid _ := hfo
  have d0 := hF6.cell 0
  have d1 := hF6.cell 1
  obtain ⟨p6, c6, hv6⟩ := own_slice hfo.own
  subst hv6
  clear hfo hst
  go_wp2_with fail
  refine bodyPost_ret (v := .tuple #[.agg #[.slice (some ⟨w2.heap.size, 0, none⟩) 2 2, .slice p6 (Pl.climbT [old, old] S P).length c6], .bool true]) (by simp [results, Tryz.results88, go_sem, g0, g1]) rfl ⟨w2.heap.size, _, rfl, ?_, (hk5.setCell (by simp) _).setCell (by simp) _⟩
  have hfo := HFO.out
  have hr := hfo.roots
  rw [hxy] at hr
  have hRne : w2.heap.size ≠ w.heap.size := by have := hRes2.lt; omega
  have hT2 : ∀ (u1 u2 : Value), Turn (fun k => k = w.heap.size) w5 ((w5.setCell ⟨w.heap.size, 0, none⟩ u1).setCell ⟨w.heap.size, 1, none⟩ u2) := fun u1 u2 => ((Turn.refl (fun k => k = w.heap.size) w5).setCell (fun _ => rfl) u1).setCell (fun _ => rfl) u2
  refine FoldOut.mk (by have := hRes2.lt; omega) ((hr.other hRne _ _).other hRne _ _) ?_ hfo.size
  refine ((hfo.own.turn (hT2 _ _) ?_).weak (by have := hRes2.lt; omega))
  rintro k hk rfl
  have h1 := (hfo.own.lt _ hk).1
  have := hRes2.lt
  omega

set_option maxRecDepth 100000 in
set_option maxHeartbeats 4000000 in
theorem tgrow_An (old : ByteArray) (m n : Nat) (P : List ByteArray) (p : Option Addr) (cap : Nat) (w : World) (h4 : old.size = 4) (h1 : 1 ≤ m) (h2 : m ≤ n) (h40 : n ≤ 40) (hPr : Row w p P) (hcon : (Pl.gsides m n).contains true = false) (hc : Pl.climbB (Pl.gsides m n) P = false) :
    Calls Tryz.prog 88 #[.string old, .int .i64 m, .int .i64 n, .slice p P.length cap] w fun e w' => e = .returned (.tuple #[.agg #[.slice none 0 0, .slice none 0 0], .bool false]) ∧ Below w.heap.size w w' := by
  have HG : Hid (∀ w, Calls Tryz.prog 96 #[.int .i64 ((m : Int) - 1), .int .i64 n] w fun e w' => ∃ v, e = .returned v ∧ OwnS w' w.heap.size v (Pl.gsides m n) ∧ Below w.heap.size w w') := fun w => by
    have := tgsides_any n (m - 1) w h40 (by omega)
    rwa [show ((m - 1 : Nat) : Int) = (m : Int) - 1 by omega, show m - 1 + 1 = m by omega] at this
  have hSl := Nat.le_trans (Pl.gsides_length n m h1 h2) h40
  have HPr : Hid _ := hPr
  clear hPr
  generalize Pl.gsides m n = S at *
  go_enter Tryz.func88, Tryz.ntmps88
  go_wp2_with fail
  refine (HG.out _).mono ?_
  rintro e w1 ⟨v1, rfl, ho1, hb1⟩
  obtain ⟨q, sc, rfl, hsc, hscm, hsr, hsB⟩ := ho1.open2
  have hk1 : Below w.heap.size w w1 := ((Below.refl _ w).alloc (Nat.le_refl _) _).trans (hb1.mono (by simp))
  have hRes1 : Box w1 w.heap.size 104 [.slice none 0 0, .slice none 0 0] := (Box.new w 104 [.slice none 0 0, .slice none 0 0]).grow hb1 (by simp)
  have HT : Hid _ := fun w (h : SRow w q S) => tcontains_any q sc S w hSl h
  rw [hcon] at HT
  clear hb1
  have hP1 := HPr.out.grow hk1 (Nat.le_refl _)
  go_wp2_with fail
  refine (HT.out _ hsr).mono ?_
  rintro e w2 ⟨rfl, rfl⟩
  have HC : Hid _ := climb_new old S P q p sc cap w2 h4 hSl hsr hsB hP1 hsc hscm
  have hRes2 := hRes1
  clear hsr hsB hP1 ho1 HT HPr hRes1
  rw [hc] at HC
  go_wp2_with fail
  refine Calls.mono HC.out ?_
  rintro e w5 ⟨rfl, hb5, hst⟩
  have hRes5 := hRes2.grow hb5 hRes2.lt
  have hk5 := hk1.trans (hb5.mono hk1.size)
  have g0 := hRes5.cell 0
  have g1 := hRes5.cell 1
  have f0 := hRes5.frozen 0
  have f1 := hRes5.frozen 1
  have lR := hRes5.lt
  clear HC hb5
  clear hst
  go_wp2_with fail
  refine bodyPost_ret (v := .tuple #[.agg #[.slice none 0 0, .slice none 0 0], .bool false]) (by simp [results, Tryz.results88, go_sem, g0, g1]) rfl ⟨rfl, (hk5.setCell (by simp) _).setCell (by simp) _⟩

set_option maxRecDepth 100000 in
set_option maxHeartbeats 4000000 in
theorem tgrow_By (old s : ByteArray) (m n : Nat) (r : List ByteArray) (b o cap : Nat) (w : World) (hs : Pl.isSumB s = true) (h1 : 1 ≤ m) (h2 : m ≤ n) (h40 : n ≤ 40) (hPr : Row w (some ⟨b, o, none⟩) (s :: r)) (hcap : r.length + 1 ≤ cap) (hcon : (Pl.gsides m n).contains true = true) (hc : Pl.climbB (Pl.gsides m n) r = true) (x y : ByteArray) (hxy : (Pl.climb [s, s] (Pl.gsides m n) r).map Value.string = [.string x, .string y]) :
    Calls Tryz.prog 88 #[.string old, .int .i64 m, .int .i64 n, .slice (some ⟨b, o, none⟩) (r.length + 1) cap] w fun e w' => ∃ R v, e = .returned (.tuple #[.agg #[.slice (some ⟨R, 0, none⟩) 2 2, v], .bool true]) ∧ FoldOut w.heap.size R v [.string x, .string y] (Pl.climbT [s, s] (Pl.gsides m n) r) w' ∧ Below w.heap.size w w' := by
  have HG : Hid (∀ w, Calls Tryz.prog 96 #[.int .i64 ((m : Int) - 1), .int .i64 n] w fun e w' => ∃ v, e = .returned v ∧ OwnS w' w.heap.size v (Pl.gsides m n) ∧ Below w.heap.size w w') := fun w => by
    have := tgsides_any n (m - 1) w h40 (by omega)
    rwa [show ((m - 1 : Nat) : Int) = (m : Int) - 1 by omega, show m - 1 + 1 = m by omega] at this
  have hSl := Nat.le_trans (Pl.gsides_length n m h1 h2) h40
  have hs4 := isSumB_size hs
  have HI : Hid _ := fun w => tis_any s w (by rw [hs4]; decide)
  rw [hs] at HI
  have HPr : Hid _ := hPr
  clear hPr
  generalize Pl.gsides m n = S at *
  go_enter Tryz.func88, Tryz.ntmps88
  go_wp2_with fail
  refine (HG.out _).mono ?_
  rintro e w1 ⟨v1, rfl, ho1, hb1⟩
  obtain ⟨q, sc, rfl, hsc, hscm, hsr, hsB⟩ := ho1.open2
  have hk1 : Below w.heap.size w w1 := ((Below.refl _ w).alloc (Nat.le_refl _) _).trans (hb1.mono (by simp))
  have hRes1 : Box w1 w.heap.size 104 [.slice none 0 0, .slice none 0 0] := (Box.new w 104 [.slice none 0 0, .slice none 0 0]).grow hb1 (by simp)
  have HT : Hid _ := fun w (h : SRow w q S) => tcontains_any q sc S w hSl h
  rw [hcon] at HT
  clear hb1
  have hP1 := HPr.out.grow hk1 (Nat.le_refl _)
  go_wp2_with fail
  refine (HT.out _ hsr).mono ?_
  rintro e w2 ⟨rfl, rfl⟩
  rcases hP1.cell with h0 | ⟨b', o', he, hbl, hcell⟩
  · cases h0
  simp only [Option.some.injEq, Addr.mk.injEq, and_true] at he
  obtain ⟨rfl, rfl⟩ := he
  have hc0 := hcell 0 (by simp)
  have hP1' : Row w2 (if cap = 1 then some ⟨b, o, none⟩ else some ⟨b, o + 1, none⟩) r := by
    by_cases h1c : cap = 1
    · obtain rfl : r = [] := List.eq_nil_of_length_eq_zero (by omega)
      exact ⟨by simp, by simp, Or.inl rfl⟩
    · rw [if_neg h1c]
      exact hP1.drop 1
  simp only [Nat.add_zero, List.getElem_cons_zero] at hc0
  clear hcell
  go_wp2_with fail
  refine (HI.out _).mono ?_
  rintro e w3 ⟨rfl, rfl⟩
  go_wp2_with fail
  go_quiet (fail)
  have hkW := below_drewN hk1 nq
  have hRes2 := hRes1.grow (below_drewN (Below.refl _ w3) nq) hRes1.lt
  have hP2 := hP1'.grow (below_drewN (Below.refl _ w3) nq) (Nat.le_refl _)
  have hsr2 : SRow (w3.drewN nq) q S := hsr.turn (X := fun _ => False) (Turn.of (below_drewN (Below.refl _ _) nq)) (fun _ _ hh => hh)
  have hsB2 : ∀ g, q = some ⟨g, 0, none⟩ → g < (w3.drewN nq).heap.size := fun g hg => hsB g hg
  generalize w3.drewN nq = W at *
  generalize (if cap = 1 then some (⟨b, o, none⟩ : Addr) else some ⟨b, o + 1, none⟩) = p' at *
  have HC : Hid _ := climb_new s S r q p' sc (cap - 1) W hs4 hSl hsr2 hsB2 hP2 hsc hscm
  clear hsr hsB hsr2 hsB2 hP2 hP1' hP1 hk1 ho1 hc0 HI HT HPr hbl hRes1
  rw [hc] at HC
  go_wp2_with fail
  refine Calls.mono HC.out ?_
  rintro e w5 ⟨rfl, hb5, hst⟩
  have hRes5 := hRes2.grow hb5 hRes2.lt
  have hk5 := hkW.trans (hb5.mono hkW.size)
  have g0 := hRes5.cell 0
  have g1 := hRes5.cell 1
  have f0 := hRes5.frozen 0
  have f1 := hRes5.frozen 1
  have lR := hRes5.lt
  clear HC hb5
  obtain ⟨v6, hfo, hF6⟩ := hst (by first | rfl | trivial)
  have HFO : Hid _ := hfo
  have d0 := hF6.cell 0
  have d1 := hF6.cell 1
  obtain ⟨p6, c6, hv6⟩ := own_slice hfo.own
  subst hv6
  clear hfo hst
  go_wp2_with fail
  refine bodyPost_ret (v := .tuple #[.agg #[.slice (some ⟨W.heap.size, 0, none⟩) 2 2, .slice p6 (Pl.climbT [s, s] S r).length c6], .bool true]) (by simp [results, Tryz.results88, go_sem, g0, g1]) rfl ⟨W.heap.size, _, rfl, ?_, (hk5.setCell (by simp) _).setCell (by simp) _⟩
  have hfo := HFO.out
  have hr := hfo.roots
  rw [hxy] at hr
  have hRne : W.heap.size ≠ w.heap.size := by have := hRes2.lt; omega
  have hT2 : ∀ (u1 u2 : Value), Turn (fun k => k = w.heap.size) w5 ((w5.setCell ⟨w.heap.size, 0, none⟩ u1).setCell ⟨w.heap.size, 1, none⟩ u2) := fun u1 u2 => ((Turn.refl (fun k => k = w.heap.size) w5).setCell (fun _ => rfl) u1).setCell (fun _ => rfl) u2
  refine FoldOut.mk (by have := hRes2.lt; omega) ((hr.other hRne _ _).other hRne _ _) ?_ hfo.size
  refine ((hfo.own.turn (hT2 _ _) ?_).weak (by have := hRes2.lt; omega))
  rintro k hk rfl
  have h1 := (hfo.own.lt _ hk).1
  have := hRes2.lt
  omega

set_option maxRecDepth 100000 in
set_option maxHeartbeats 4000000 in
theorem tgrow_Bn (old s : ByteArray) (m n : Nat) (r : List ByteArray) (b o cap : Nat) (w : World) (hs : Pl.isSumB s = true) (h1 : 1 ≤ m) (h2 : m ≤ n) (h40 : n ≤ 40) (hPr : Row w (some ⟨b, o, none⟩) (s :: r)) (hcap : r.length + 1 ≤ cap) (hcon : (Pl.gsides m n).contains true = true) (hc : Pl.climbB (Pl.gsides m n) r = false) :
    Calls Tryz.prog 88 #[.string old, .int .i64 m, .int .i64 n, .slice (some ⟨b, o, none⟩) (r.length + 1) cap] w fun e w' => e = .returned (.tuple #[.agg #[.slice none 0 0, .slice none 0 0], .bool false]) ∧ Below w.heap.size w w' := by
  have HG : Hid (∀ w, Calls Tryz.prog 96 #[.int .i64 ((m : Int) - 1), .int .i64 n] w fun e w' => ∃ v, e = .returned v ∧ OwnS w' w.heap.size v (Pl.gsides m n) ∧ Below w.heap.size w w') := fun w => by
    have := tgsides_any n (m - 1) w h40 (by omega)
    rwa [show ((m - 1 : Nat) : Int) = (m : Int) - 1 by omega, show m - 1 + 1 = m by omega] at this
  have hSl := Nat.le_trans (Pl.gsides_length n m h1 h2) h40
  have hs4 := isSumB_size hs
  have HI : Hid _ := fun w => tis_any s w (by rw [hs4]; decide)
  rw [hs] at HI
  have HPr : Hid _ := hPr
  clear hPr
  generalize Pl.gsides m n = S at *
  go_enter Tryz.func88, Tryz.ntmps88
  go_wp2_with fail
  refine (HG.out _).mono ?_
  rintro e w1 ⟨v1, rfl, ho1, hb1⟩
  obtain ⟨q, sc, rfl, hsc, hscm, hsr, hsB⟩ := ho1.open2
  have hk1 : Below w.heap.size w w1 := ((Below.refl _ w).alloc (Nat.le_refl _) _).trans (hb1.mono (by simp))
  have hRes1 : Box w1 w.heap.size 104 [.slice none 0 0, .slice none 0 0] := (Box.new w 104 [.slice none 0 0, .slice none 0 0]).grow hb1 (by simp)
  have HT : Hid _ := fun w (h : SRow w q S) => tcontains_any q sc S w hSl h
  rw [hcon] at HT
  clear hb1
  have hP1 := HPr.out.grow hk1 (Nat.le_refl _)
  go_wp2_with fail
  refine (HT.out _ hsr).mono ?_
  rintro e w2 ⟨rfl, rfl⟩
  rcases hP1.cell with h0 | ⟨b', o', he, hbl, hcell⟩
  · cases h0
  simp only [Option.some.injEq, Addr.mk.injEq, and_true] at he
  obtain ⟨rfl, rfl⟩ := he
  have hc0 := hcell 0 (by simp)
  have hP1' : Row w2 (if cap = 1 then some ⟨b, o, none⟩ else some ⟨b, o + 1, none⟩) r := by
    by_cases h1c : cap = 1
    · obtain rfl : r = [] := List.eq_nil_of_length_eq_zero (by omega)
      exact ⟨by simp, by simp, Or.inl rfl⟩
    · rw [if_neg h1c]
      exact hP1.drop 1
  simp only [Nat.add_zero, List.getElem_cons_zero] at hc0
  clear hcell
  go_wp2_with fail
  refine (HI.out _).mono ?_
  rintro e w3 ⟨rfl, rfl⟩
  go_wp2_with fail
  go_quiet (fail)
  have hkW := below_drewN hk1 nq
  have hRes2 := hRes1.grow (below_drewN (Below.refl _ w3) nq) hRes1.lt
  have hP2 := hP1'.grow (below_drewN (Below.refl _ w3) nq) (Nat.le_refl _)
  have hsr2 : SRow (w3.drewN nq) q S := hsr.turn (X := fun _ => False) (Turn.of (below_drewN (Below.refl _ _) nq)) (fun _ _ hh => hh)
  have hsB2 : ∀ g, q = some ⟨g, 0, none⟩ → g < (w3.drewN nq).heap.size := fun g hg => hsB g hg
  generalize w3.drewN nq = W at *
  generalize (if cap = 1 then some (⟨b, o, none⟩ : Addr) else some ⟨b, o + 1, none⟩) = p' at *
  have HC : Hid _ := climb_new s S r q p' sc (cap - 1) W hs4 hSl hsr2 hsB2 hP2 hsc hscm
  clear hsr hsB hsr2 hsB2 hP2 hP1' hP1 hk1 ho1 hc0 HI HT HPr hbl hRes1
  rw [hc] at HC
  go_wp2_with fail
  refine Calls.mono HC.out ?_
  rintro e w5 ⟨rfl, hb5, hst⟩
  have hRes5 := hRes2.grow hb5 hRes2.lt
  have hk5 := hkW.trans (hb5.mono hkW.size)
  have g0 := hRes5.cell 0
  have g1 := hRes5.cell 1
  have f0 := hRes5.frozen 0
  have f1 := hRes5.frozen 1
  have lR := hRes5.lt
  clear HC hb5
  clear hst
  go_wp2_with fail
  refine bodyPost_ret (v := .tuple #[.agg #[.slice none 0 0, .slice none 0 0], .bool false]) (by simp [results, Tryz.results88, go_sem, g0, g1]) rfl ⟨rfl, (hk5.setCell (by simp) _).setCell (by simp) _⟩

set_option maxRecDepth 100000 in
set_option maxHeartbeats 4000000 in
theorem tgrow_e (old : ByteArray) (m n : Nat) (p : Option Addr) (cap : Nat) (w : World) (h1 : 1 ≤ m) (h2 : m ≤ n) (h40 : n ≤ 40) (hcon : (Pl.gsides m n).contains true = true) :
    Calls Tryz.prog 88 #[.string old, .int .i64 m, .int .i64 n, .slice p 0 cap] w fun e w' => e = .returned (.tuple #[.agg #[.slice none 0 0, .slice none 0 0], .bool false]) ∧ Below w.heap.size w w' := by
  have HG : Hid (∀ w, Calls Tryz.prog 96 #[.int .i64 ((m : Int) - 1), .int .i64 n] w fun e w' => ∃ v, e = .returned v ∧ OwnS w' w.heap.size v (Pl.gsides m n) ∧ Below w.heap.size w w') := fun w => by
    have := tgsides_any n (m - 1) w h40 (by omega)
    rwa [show ((m - 1 : Nat) : Int) = (m : Int) - 1 by omega, show m - 1 + 1 = m by omega] at this
  have hSl := Nat.le_trans (Pl.gsides_length n m h1 h2) h40
  generalize Pl.gsides m n = S at *
  go_enter Tryz.func88, Tryz.ntmps88
  go_wp2_with fail
  refine (HG.out _).mono ?_
  rintro e w1 ⟨v1, rfl, ho1, hb1⟩
  obtain ⟨q, sc, rfl, hsc, hscm, hsr, hsB⟩ := ho1.open2
  have hk1 : Below w.heap.size w w1 := ((Below.refl _ w).alloc (Nat.le_refl _) _).trans (hb1.mono (by simp))
  have hRes1 : Box w1 w.heap.size 104 [.slice none 0 0, .slice none 0 0] := (Box.new w 104 [.slice none 0 0, .slice none 0 0]).grow hb1 (by simp)
  have HT : Hid _ := fun w (h : SRow w q S) => tcontains_any q sc S w hSl h
  rw [hcon] at HT
  clear hb1
  go_wp2_with fail
  refine (HT.out _ hsr).mono ?_
  rintro e w2 ⟨rfl, rfl⟩
  have g0 := hRes1.cell 0
  have g1 := hRes1.cell 1
  have f0 := hRes1.frozen 0
  have f1 := hRes1.frozen 1
  have lR := hRes1.lt
  go_wp2_with fail
  refine bodyPost_ret (v := .tuple #[.agg #[.slice none 0 0, .slice none 0 0], .bool false]) (by simp [results, Tryz.results88, go_sem, g0, g1]) rfl ⟨rfl, (hk1.setCell (by simp) _).setCell (by simp) _⟩

set_option maxRecDepth 100000 in
set_option maxHeartbeats 4000000 in
theorem tgrow_s (old s : ByteArray) (m n : Nat) (r : List ByteArray) (b o cap : Nat) (w : World) (hs : Pl.isSumB s = false) (h1 : 1 ≤ m) (h2 : m ≤ n) (h40 : n ≤ 40) (hPr : Row w (some ⟨b, o, none⟩) (s :: r)) (hcon : (Pl.gsides m n).contains true = true) :
    Calls Tryz.prog 88 #[.string old, .int .i64 m, .int .i64 n, .slice (some ⟨b, o, none⟩) (r.length + 1) cap] w fun e w' => e = .returned (.tuple #[.agg #[.slice none 0 0, .slice none 0 0], .bool false]) ∧ Below w.heap.size w w' := by
  have HG : Hid (∀ w, Calls Tryz.prog 96 #[.int .i64 ((m : Int) - 1), .int .i64 n] w fun e w' => ∃ v, e = .returned v ∧ OwnS w' w.heap.size v (Pl.gsides m n) ∧ Below w.heap.size w w') := fun w => by
    have := tgsides_any n (m - 1) w h40 (by omega)
    rwa [show ((m - 1 : Nat) : Int) = (m : Int) - 1 by omega, show m - 1 + 1 = m by omega] at this
  have hSl := Nat.le_trans (Pl.gsides_length n m h1 h2) h40
  have HI : Hid _ := fun w => tis_any s w (hPr.size s (by simp))
  rw [hs] at HI
  have HPr : Hid _ := hPr
  clear hPr
  generalize Pl.gsides m n = S at *
  go_enter Tryz.func88, Tryz.ntmps88
  go_wp2_with fail
  refine (HG.out _).mono ?_
  rintro e w1 ⟨v1, rfl, ho1, hb1⟩
  obtain ⟨q, sc, rfl, hsc, hscm, hsr, hsB⟩ := ho1.open2
  have hk1 : Below w.heap.size w w1 := ((Below.refl _ w).alloc (Nat.le_refl _) _).trans (hb1.mono (by simp))
  have hRes1 : Box w1 w.heap.size 104 [.slice none 0 0, .slice none 0 0] := (Box.new w 104 [.slice none 0 0, .slice none 0 0]).grow hb1 (by simp)
  have HT : Hid _ := fun w (h : SRow w q S) => tcontains_any q sc S w hSl h
  rw [hcon] at HT
  clear hb1
  have hP1 := HPr.out.grow hk1 (Nat.le_refl _)
  go_wp2_with fail
  refine (HT.out _ hsr).mono ?_
  rintro e w2 ⟨rfl, rfl⟩
  rcases hP1.cell with h0 | ⟨b', o', he, hbl, hcell⟩
  · cases h0
  simp only [Option.some.injEq, Addr.mk.injEq, and_true] at he
  obtain ⟨rfl, rfl⟩ := he
  have hc0 := hcell 0 (by simp)
  simp only [Nat.add_zero, List.getElem_cons_zero] at hc0
  clear hcell
  have g0 := hRes1.cell 0
  have g1 := hRes1.cell 1
  have f0 := hRes1.frozen 0
  have f1 := hRes1.frozen 1
  have lR := hRes1.lt
  go_wp2_with fail
  refine (HI.out _).mono ?_
  rintro e w3 ⟨rfl, rfl⟩
  go_wp2_with fail
  refine bodyPost_ret (v := .tuple #[.agg #[.slice none 0 0, .slice none 0 0], .bool false]) (by simp [results, Tryz.results88, go_sem, g0, g1]) rfl ⟨rfl, (hk1.setCell (by simp) _).setCell (by simp) _⟩

theorem tgrow_no (old : ByteArray) (m n : Nat) (P : List ByteArray) (p : Option Addr) (cap : Nat) (w : World) (h4 : old.size = 4) (h1 : 1 ≤ m) (h2 : m ≤ n) (h40 : n ≤ 40) (hPr : Row w p P) (hcap : P.length ≤ cap) (h : Pl.bothT old m n true P = none) :
    Calls Tryz.prog 88 #[.string old, .int .i64 m, .int .i64 n, .slice p P.length cap] w fun e w' => e = .returned (.tuple #[.agg #[.slice none 0 0, .slice none 0 0], .bool false]) ∧ Below w.heap.size w w' := by
  have hg := grow_no h1 h2 h
  unfold Pl.growth at hg
  cases hcon : (Pl.gsides m n).contains true with
  | false =>
    rw [hcon, if_pos (by rfl)] at hg
    cases hc : Pl.climbB (Pl.gsides m n) P with
    | true => rw [hc, if_pos rfl] at hg; cases hg
    | false => exact tgrow_An old m n P p cap w h4 h1 h2 h40 hPr hcon hc
  | true =>
    rw [hcon, if_neg (by simp)] at hg
    match P, hPr, hcap, hg with
    | [], _, _, _ => exact tgrow_e old m n p cap w h1 h2 h40 hcon
    | s :: r, hPr, hcap, hg =>
      rcases hPr.cell with h0 | ⟨b, o, rfl, _, _⟩
      · cases h0
      cases hs : Pl.isSumB s with
      | false => exact tgrow_s old s m n r b o cap w hs h1 h2 h40 hPr hcon
      | true =>
        cases hc : Pl.climbB (Pl.gsides m n) r with
        | true => simp only [hs, hc, if_true] at hg; cases hg
        | false => exact tgrow_Bn old s m n r b o cap w hs h1 h2 h40 hPr hcap hcon hc

theorem tgrow_yes (old : ByteArray) (m n : Nat) (P : List ByteArray) (p : Option Addr) (cap : Nat) (w : World) (h4 : old.size = 4) (h1 : 1 ≤ m) (h2 : m ≤ n) (h40 : n ≤ 40) (hPr : Row w p P) (hcap : P.length ≤ cap) (t : List ByteArray) (x y : ByteArray) (h : Pl.bothT old m n true P = some (t, x, y)) :
    Calls Tryz.prog 88 #[.string old, .int .i64 m, .int .i64 n, .slice p P.length cap] w fun e w' => ∃ R v, e = .returned (.tuple #[.agg #[.slice (some ⟨R, 0, none⟩) 2 2, v], .bool true]) ∧ FoldOut w.heap.size R v [.string x, .string y] t w' ∧ Below w.heap.size w w' := by
  obtain ⟨hg, ht⟩ := grow_yes h1 h2 h
  subst ht
  unfold Pl.growth at hg
  unfold Pl.growthT
  cases hcon : (Pl.gsides m n).contains true with
  | false =>
    rw [hcon, if_pos (by rfl)] at hg
    rw [if_pos (by rfl)]
    cases hc : Pl.climbB (Pl.gsides m n) P with
    | false => rw [hc, if_neg (by simp)] at hg; cases hg
    | true =>
      obtain ⟨a, b, hab⟩ := climb_two old (Pl.gsides m n) P
      rw [hc, if_pos rfl, hab] at hg
      have hxy : a = x ∧ b = y := by simpa using hg
      exact tgrow_Ay old m n P p cap w h4 h1 h2 h40 hPr hcon hc x y (by rw [hab, hxy.1, hxy.2]; rfl)
  | true =>
    rw [hcon, if_neg (by simp)] at hg
    rw [if_neg (by simp)]
    match P, hPr, hcap, hg with
    | s :: r, hPr, hcap, hg =>
      rcases hPr.cell with h0 | ⟨b, o, rfl, _, _⟩
      · cases h0
      cases hs : Pl.isSumB s with
      | false => simp [hs] at hg
      | true =>
        cases hc : Pl.climbB (Pl.gsides m n) r with
        | false => simp [hs, hc] at hg
        | true =>
          obtain ⟨c, d, hab⟩ := climb_two s (Pl.gsides m n) r
          have hxy : c = x ∧ d = y := by simpa [hs, hc, hab] using hg
          exact tgrow_By old s m n r b o cap w hs h1 h2 h40 hPr hcap hcon hc x y (by rw [hab, hxy.1, hxy.2]; rfl)

end Go.Proofs.YtkhnjipjbhcgdaaGreat
