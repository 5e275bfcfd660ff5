/-
  THE WALKS of slices.Contains of sides, tree.FoldGrowth.
-/
import Derived.Test.YtnekilnfhkoogaaTIncl2
namespace Go.Proofs.Ytnekilnfhkoogaa
open Go.RowKit Hp

theorem contains_first (S : List Bool) (k : Nat) (hk : k < S.length) (h : S[k] = true) : S.contains true = true := by
  rw [List.contains_iff_mem, ← h]
  exact List.getElem_mem _
theorem contains_none (S : List Bool) (h : ∀ k (hk : k < S.length), S[k] = false) : S.contains true = false := by
  cases hc : S.contains true with
  | false => rfl
  | true =>
    rw [List.contains_iff_mem] at hc
    obtain ⟨k, hk, he⟩ := List.getElem_of_mem hc
    rw [h k hk] at he
    cases he

set_option maxRecDepth 100000 in
set_option maxHeartbeats 1000000 in
theorem tcontains_any (q : Option Addr) (sc : Nat) (S : List Bool) (w : World) (hS : S.length ≤ 40) (hSr : SRow w q S) :
    Calls Try.prog 88 #[.slice q S.length sc, .int .i64 1] w fun e w' => e = .returned (.bool (S.contains true)) ∧ w' = w := by
  have HY : Hid (∀ k (hk : k < S.length), S[k] = true → S.contains true = true) := fun k hk h => contains_first S k hk h
  have HN : Hid ((∀ k (hk : k < S.length), S[k] = false) → S.contains true = false) := fun h => contains_none S h
  generalize S.contains true = x at *
  go_enter Try.func88, Try.ntmps88
  go_wp2
  go_loop [8] (fun i => ∃ k : Nat, k ≤ S.length ∧ i = .int .i64 k ∧ Hid (∀ j (hj : j < S.length), j < k → S[j] = false)) (fun i => S.length - (intOf i).toNat)
  case atStart => exact ⟨0, by omega, rfl, fun j hj h => by omega⟩
  case round =>
    obtain ⟨k, hk, rfl, HA⟩ := hrel
    by_cases hlt : k < S.length
    · rcases hSr with h0 | ⟨g, rfl, _, hside⟩
      · rw [h0] at hlt; exact absurd hlt (by simp)
      have hsk := hside k hlt
      cases hs : S[k] with
      | true =>
        have HX : Hid _ := HY.out k hlt hs
        rw [hs] at hsk
        unfold sideV at hsk
        simp only [if_true] at hsk
        clear hside hs
        go_wp2
        go_ret
        exact ⟨ret_bool HX.out.symm, rfl⟩
      | false =>
        have HX : Hid (∀ j (hj : j < S.length), j < k + 1 → S[j] = false) := by
          intro j hj hjk
          by_cases hjk2 : j < k
          · exact HA.out j hj hjk2
          · obtain rfl : j = k := by omega
            exact hs
        rw [hs] at hsk
        unfold sideV at hsk
        simp only [Bool.false_eq_true, if_false] at hsk
        clear hside hs
        go_wp2
        go_round
        case rel => exact ⟨k + 1, by omega, by go_num, HX⟩
        case measure => simp [intOf]; omega
    · have HX : Hid _ := HN.out fun j hj => HA.out j hj (by omega)
      go_wp2
      go_ret
      exact ⟨ret_bool HX.out.symm, rfl⟩

/-- What FoldGrowth gives. -/
def foldG (old : ByteArray) (m n : Nat) (P : List ByteArray) : Value :=
  match Pl.bothT old m n true P with
  | none => .tuple #[.string ⟨#[]⟩, .string ⟨#[]⟩, .bool false]
  | some (_, a, b) => .tuple #[.string a, .string b, .bool true]
theorem foldG_none {old : ByteArray} {m n : Nat} {P : List ByteArray} (h1 : 1 ≤ m) (h2 : m ≤ n) (h : Pl.growth old (Pl.gsides m n) true P = none) : foldG old m n P = .tuple #[.string ⟨#[]⟩, .string ⟨#[]⟩, .bool false] := by
  have hT := Pl.bothT_growth old n m true P h1 h2
  rw [h] at hT
  unfold foldG
  cases hx : Pl.bothT old m n true P with
  | none => rfl
  | some x => rw [hx] at hT; simp at hT
theorem foldG_some {old : ByteArray} {m n : Nat} {P : List ByteArray} {a b : ByteArray} (h1 : 1 ≤ m) (h2 : m ≤ n) (h : Pl.growth old (Pl.gsides m n) true P = some (a, b)) : foldG old m n P = .tuple #[.string a, .string b, .bool true] := by
  have hT := Pl.bothT_growth old n m true P h1 h2
  rw [h] at hT
  unfold foldG
  cases hx : Pl.bothT old m n true P with
  | none => rw [hx] at hT; simp at hT
  | some x =>
    rw [hx] at hT
    obtain ⟨t, y, z⟩ := x
    have : (y, z) = (a, b) := by simpa using hT
    simp only [Prod.mk.injEq] at this
    rw [this.1, this.2]
theorem climb_two (s : ByteArray) (S : List Bool) (P : List ByteArray) : ∃ a b, Pl.climb [s, s] S P = [a, b] := by
  have hcl : (Pl.climb [s, s] S P).length = 2 := Pl.climb_length _ _ _ (by simp)
  match Pl.climb [s, s] S P, hcl with
  | [a, b], _ => exact ⟨a, b, rfl⟩

theorem OwnS.open2 {w : World} {B : Nat} {v : Value} {S : List Bool} (h : OwnS w B v S) : ∃ q cap, v = .slice q S.length cap ∧ S.length ≤ cap ∧ cap ≤ maxLen ∧ SRow w q S ∧ (∀ g, q = some ⟨g, 0, none⟩ → g < w.heap.size) := by
  have hlt := World.ownsRow.lt h
  rcases h.2 with ⟨rfl, h0⟩ | ⟨g, cap, cur, rfl, hb, hg, hc, hm, hz, ht⟩
  · have : S = [] := List.eq_nil_of_length_eq_zero h0
    subst this
    exact ⟨none, 0, rfl, Nat.le_refl _, by decide, Or.inl rfl, fun g hg => by cases hg⟩
  · refine ⟨some ⟨g, 0, none⟩, cap, rfl, hc, hm, Or.inr ⟨g, rfl, (hlt g rfl).2, fun i hi => ?_⟩, fun g' hg' => ?_⟩
    · have := World.ownsRow.cells h (g := g) rfl i (sideV S[i]) (by simp [hi])
      rwa [Go.Proofs.Ytnekilnfhkoogaa.add_plain, Nat.zero_add] at this
    · simp only [Option.some.injEq, Addr.mk.injEq, and_true] at hg'
      rw [← hg']
      exact (hlt g rfl).2
/-- The climb of two roots that start alike, laid anew. -/
theorem climb_new (s : ByteArray) (S : List Bool) (P : List ByteArray) (q p : Option Addr) (sc cap : Nat) (w W : World) (hs : s.size = 4) (hS : S.length ≤ 40) (hsr : SRow W q S) (hsB : ∀ g, q = some ⟨g, 0, none⟩ → g < W.heap.size) (hP : Row W p P) (hsc : S.length ≤ sc) (hscm : sc ≤ maxLen) (hk : Below w.heap.size w W) :
    Calls Try.prog 85 #[.pointer (some ⟨W.heap.size + 1, 0, none⟩), .slice q S.length sc, .slice p P.length cap] ((W.alloc (.cells #[.string s, .string s] 9)).alloc (.cells #[.slice (some ⟨W.heap.size, 0, none⟩) 2 2] 89)) fun e w' => e = .returned (.bool (Pl.climbB S P)) ∧ Below w.heap.size w w' ∧ (Pl.climbB S P = true → Box w' W.heap.size 9 ((Pl.climb [s, s] S P).map Value.string)) ∧ Box w' (W.heap.size + 1) 89 [.slice (some ⟨W.heap.size, 0, none⟩) 2 2] := by
  have hF : Box ((W.alloc (.cells #[.string s, .string s] 9)).alloc (.cells #[.slice (some ⟨W.heap.size, 0, none⟩) 2 2] 89)) (W.heap.size + 1) 89 [.slice (some ⟨W.heap.size, 0, none⟩) 2 2] := by
    have := Box.new (W.alloc (.cells #[.string s, .string s] 9)) 89 [.slice (some ⟨W.heap.size, 0, none⟩) 2 2]
    rwa [show (W.alloc (.cells #[.string s, .string s] 9)).heap.size = W.heap.size + 1 by simp] at this
  have hR : Box ((W.alloc (.cells #[.string s, .string s] 9)).alloc (.cells #[.slice (some ⟨W.heap.size, 0, none⟩) 2 2] 89)) W.heap.size 9 [.string s, .string s] := (Box.new W 9 [.string s, .string s]).alloc _
  have hb : Below W.heap.size W ((W.alloc (.cells #[.string s, .string s] 9)).alloc (.cells #[.slice (some ⟨W.heap.size, 0, none⟩) 2 2] 89)) := ((Below.refl _ _).alloc (Nat.le_refl _) _).alloc (by simp) _
  have hsz := hk.size
  have h := tclimb_any (W.heap.size + 1) W.heap.size [s, s] S P q p sc cap _ (Or.inr rfl) (by omega) hF hR (fun x hx => by simp at hx; rw [hx]; exact hs) hS (hsr.but (R := W.heap.size) (But.of hb) (fun g hg => by have := hsB g hg; omega)) (fun g hg => by have := hsB g hg; omega) (hP.grow hb (Nat.le_refl _)) (hP.ne (Nat.le_refl _)) hsc hscm
  refine h.mono fun e w' ⟨he, hbt, hc⟩ => ⟨he, ?_, hc, hF.but hbt (by omega)⟩
  exact (hk.trans (hb.mono hsz)).trans (hbt.below hsz (by simp; omega))

set_option maxRecDepth 100000 in
set_option maxHeartbeats 4000000 in
theorem tgrow_Ay (old : ByteArray) (m n : Nat) (P : List ByteArray) (p : Option Addr) (cap : Nat) (w : World) (h4 : old.size = 4) (h1 : 1 ≤ m) (h2 : m ≤ n) (h40 : n ≤ 40) (hPr : Row w p P) (hcon : (Pl.gsides m n).contains true = false) (hc : Pl.climbB (Pl.gsides m n) P = true) :
    Calls Try.prog 57 #[.string old, .int .i64 m, .int .i64 n, .slice p P.length cap] w fun e w' => e = .returned (foldG old m n P) ∧ Below w.heap.size w w' := by
  obtain ⟨x, y, hxy⟩ := climb_two old (Pl.gsides m n) P
  have HV : Hid (foldG old m n P = .tuple #[.string x, .string y, .bool true]) := foldG_some h1 h2 (by
    unfold Pl.growth
    rw [hcon, hc, hxy]
    rfl)
  have HG : Hid (∀ w, Calls Try.prog 87 #[.int .i64 ((m : Int) - 1), .int .i64 n] w fun e w' => ∃ v, e = .returned v ∧ OwnS w' w.heap.size v (Pl.gsides m n) ∧ Below w.heap.size w w') := fun w => by
    have := tgsides_any n (m - 1) w h40 (by omega)
    rwa [show ((m - 1 : Nat) : Int) = (m : Int) - 1 by omega, show m - 1 + 1 = m by omega] at this
  have hSl := Nat.le_trans (Pl.gsides_length n m h1 h2) h40
  have HPr : Hid _ := hPr
  clear hPr
  generalize Pl.gsides m n = S at *
  go_enter Try.func57, Try.ntmps57
  go_wp2_with fail
  refine (HG.out _).mono ?_
  rintro e w1 ⟨v1, rfl, ho1, hb1⟩
  obtain ⟨q, sc, rfl, hsc, hscm, hsr, hsB⟩ := ho1.open2
  have HT : Hid _ := fun w (h : SRow w q S) => tcontains_any q sc S w hSl h
  rw [hcon] at HT
  have hP1 := HPr.out.grow hb1 (Nat.le_refl _)
  go_wp2_with fail
  refine (HT.out _ hsr).mono ?_
  rintro e w2 ⟨rfl, rfl⟩
  have HC : Hid _ := climb_new old S P q p sc cap w w2 h4 hSl hsr hsB hP1 hsc hscm hb1
  clear hsr hsB hP1 hb1 ho1 HT HPr
  rw [hc] at HC
  go_wp2_with fail
  refine Calls.mono HC.out ?_
  rintro e w5 ⟨rfl, hk5, hR5, hF5⟩
  have hR5 := hR5 (by first | rfl | trivial)
  rw [hxy] at hR5
  have c0 := hF5.cell 0
  have c1 := hR5.cell 0
  have c2 := hR5.cell 1
  clear HC hR5 hF5 hxy
  go_wp2_with fail
  go_quiet (fail)
  go_wp2_with fail
  rw [HV.out]
  refine bodyPost_ret (v := .tuple #[.string x, .string y, .bool true]) (by simp [results, Try.results57, go_sem]) rfl ⟨rfl, below_drewN hk5 _⟩

set_option maxRecDepth 100000 in
set_option maxHeartbeats 4000000 in
theorem tgrow_An (old : ByteArray) (m n : Nat) (P : List ByteArray) (p : Option Addr) (cap : Nat) (w : World) (h4 : old.size = 4) (h1 : 1 ≤ m) (h2 : m ≤ n) (h40 : n ≤ 40) (hPr : Row w p P) (hcon : (Pl.gsides m n).contains true = false) (hc : Pl.climbB (Pl.gsides m n) P = false) :
    Calls Try.prog 57 #[.string old, .int .i64 m, .int .i64 n, .slice p P.length cap] w fun e w' => e = .returned (foldG old m n P) ∧ Below w.heap.size w w' := by
  have HV : Hid (foldG old m n P = .tuple #[.string ⟨#[]⟩, .string ⟨#[]⟩, .bool false]) := foldG_none h1 h2 (by
    unfold Pl.growth
    rw [hcon, hc]
    rfl)
  have HG : Hid (∀ w, Calls Try.prog 87 #[.int .i64 ((m : Int) - 1), .int .i64 n] w fun e w' => ∃ v, e = .returned v ∧ OwnS w' w.heap.size v (Pl.gsides m n) ∧ Below w.heap.size w w') := fun w => by
    have := tgsides_any n (m - 1) w h40 (by omega)
    rwa [show ((m - 1 : Nat) : Int) = (m : Int) - 1 by omega, show m - 1 + 1 = m by omega] at this
  have hSl := Nat.le_trans (Pl.gsides_length n m h1 h2) h40
  have HPr : Hid _ := hPr
  clear hPr
  generalize Pl.gsides m n = S at *
  go_enter Try.func57, Try.ntmps57
  go_wp2_with fail
  refine (HG.out _).mono ?_
  rintro e w1 ⟨v1, rfl, ho1, hb1⟩
  obtain ⟨q, sc, rfl, hsc, hscm, hsr, hsB⟩ := ho1.open2
  have HT : Hid _ := fun w (h : SRow w q S) => tcontains_any q sc S w hSl h
  rw [hcon] at HT
  have hP1 := HPr.out.grow hb1 (Nat.le_refl _)
  go_wp2_with fail
  refine (HT.out _ hsr).mono ?_
  rintro e w2 ⟨rfl, rfl⟩
  have HC : Hid _ := climb_new old S P q p sc cap w w2 h4 hSl hsr hsB hP1 hsc hscm hb1
  clear hsr hsB hP1 hb1 ho1 HT HPr
  rw [hc] at HC
  go_wp2_with fail
  refine Calls.mono HC.out ?_
  rintro e w5 ⟨rfl, hk5, hR5, hF5⟩
  clear HC hR5 hF5
  go_wp2_with fail
  rw [HV.out]
  refine bodyPost_ret (v := .tuple #[.string ⟨#[]⟩, .string ⟨#[]⟩, .bool false]) (by simp [results, Try.results57, go_sem]) rfl ⟨rfl, hk5⟩

set_option maxRecDepth 100000 in
set_option maxHeartbeats 4000000 in
theorem tgrow_By (old s : ByteArray) (m n : Nat) (r : List ByteArray) (b o cap : Nat) (w : World) (hs : Pl.isSumB s = true) (h1 : 1 ≤ m) (h2 : m ≤ n) (h40 : n ≤ 40) (hPr : Row w (some ⟨b, o, none⟩) (s :: r)) (hcap : r.length + 1 ≤ cap) (hcon : (Pl.gsides m n).contains true = true) (hc : Pl.climbB (Pl.gsides m n) r = true) :
    Calls Try.prog 57 #[.string old, .int .i64 m, .int .i64 n, .slice (some ⟨b, o, none⟩) (r.length + 1) cap] w fun e w' => e = .returned (foldG old m n (s :: r)) ∧ Below w.heap.size w w' := by
  obtain ⟨x, y, hxy⟩ := climb_two s (Pl.gsides m n) r
  have HV : Hid (foldG old m n (s :: r) = .tuple #[.string x, .string y, .bool true]) := foldG_some h1 h2 (by
    unfold Pl.growth
    rw [hcon, if_neg (by simp)]
    show (if Pl.isSumB s = true then (if Pl.climbB (Pl.gsides m n) r = true then _ else none) else none) = _
    rw [if_pos hs, if_pos hc, hxy]
    rfl)
  have HG : Hid (∀ w, Calls Try.prog 87 #[.int .i64 ((m : Int) - 1), .int .i64 n] w fun e w' => ∃ v, e = .returned v ∧ OwnS w' w.heap.size v (Pl.gsides m n) ∧ Below w.heap.size w w') := fun w => by
    have := tgsides_any n (m - 1) w h40 (by omega)
    rwa [show ((m - 1 : Nat) : Int) = (m : Int) - 1 by omega, show m - 1 + 1 = m by omega] at this
  have hSl := Nat.le_trans (Pl.gsides_length n m h1 h2) h40
  have hs4 := isSumB_size hs
  have HI : Hid _ := fun w => tis_any s w (by rw [hs4]; decide)
  rw [hs] at HI
  have HPr : Hid _ := hPr
  clear hPr
  generalize Pl.gsides m n = S at *
  go_enter Try.func57, Try.ntmps57
  go_wp2_with fail
  refine (HG.out _).mono ?_
  rintro e w1 ⟨v1, rfl, ho1, hb1⟩
  obtain ⟨q, sc, rfl, hsc, hscm, hsr, hsB⟩ := ho1.open2
  have HT : Hid _ := fun w (h : SRow w q S) => tcontains_any q sc S w hSl h
  rw [hcon] at HT
  have hP1 := HPr.out.grow hb1 (Nat.le_refl _)
  go_wp2_with fail
  refine (HT.out _ hsr).mono ?_
  rintro e w2 ⟨rfl, rfl⟩
  rcases hP1.cell with h0 | ⟨b', o', he, hbl, hcell⟩
  · cases h0
  simp only [Option.some.injEq, Addr.mk.injEq, and_true] at he
  obtain ⟨rfl, rfl⟩ := he
  have hc0 := hcell 0 (by simp)
  have hP1' : Row w2 (if cap = 1 then some ⟨b, o, none⟩ else some ⟨b, o + 1, none⟩) r := by
    by_cases h1c : cap = 1
    · obtain rfl : r = [] := List.eq_nil_of_length_eq_zero (by omega)
      exact ⟨by simp, by simp, Or.inl rfl⟩
    · rw [if_neg h1c]
      exact hP1.drop 1
  simp only [Nat.add_zero, List.getElem_cons_zero] at hc0
  clear hcell
  go_wp2_with fail
  refine (HI.out _).mono ?_
  rintro e w3 ⟨rfl, rfl⟩
  go_wp2_with fail
  go_quiet (fail)
  have hk1 := below_drewN hb1 nq
  have hP2 := hP1'.grow (below_drewN (Below.refl _ w3) nq) (Nat.le_refl _)
  have hsr2 : SRow (w3.drewN nq) q S := hsr.but (R := w3.heap.size) (But.of (below_drewN (Below.refl _ _) nq)) (fun g hg => by have := hsB g hg; omega)
  have hsB2 : ∀ g, q = some ⟨g, 0, none⟩ → g < (w3.drewN nq).heap.size := fun g hg => hsB g hg
  generalize w3.drewN nq = W at *
  generalize (if cap = 1 then some (⟨b, o, none⟩ : Addr) else some ⟨b, o + 1, none⟩) = p' at *
  have HC : Hid _ := climb_new s S r q p' sc (cap - 1) w W hs4 hSl hsr2 hsB2 hP2 hsc hscm hk1
  clear hsr hsB hsr2 hsB2 hP2 hP1' hP1 hk1 hb1 ho1 hc0 HI HT HPr hbl
  rw [hc] at HC
  go_wp2_with fail
  refine Calls.mono HC.out ?_
  rintro e w5 ⟨rfl, hk5, hR5, hF5⟩
  have hR5 := hR5 (by first | rfl | trivial)
  rw [hxy] at hR5
  have c0 := hF5.cell 0
  have c1 := hR5.cell 0
  have c2 := hR5.cell 1
  clear HC hR5 hF5 hxy
  go_wp2_with fail
  go_quiet (fail)
  go_wp2_with fail
  rw [HV.out]
  refine bodyPost_ret (v := .tuple #[.string x, .string y, .bool true]) (by simp [results, Try.results57, go_sem]) rfl ⟨rfl, below_drewN hk5 _⟩

set_option maxRecDepth 100000 in
set_option maxHeartbeats 4000000 in
theorem tgrow_Bn (old s : ByteArray) (m n : Nat) (r : List ByteArray) (b o cap : Nat) (w : World) (hs : Pl.isSumB s = true) (h1 : 1 ≤ m) (h2 : m ≤ n) (h40 : n ≤ 40) (hPr : Row w (some ⟨b, o, none⟩) (s :: r)) (hcap : r.length + 1 ≤ cap) (hcon : (Pl.gsides m n).contains true = true) (hc : Pl.climbB (Pl.gsides m n) r = false) :
    Calls Try.prog 57 #[.string old, .int .i64 m, .int .i64 n, .slice (some ⟨b, o, none⟩) (r.length + 1) cap] w fun e w' => e = .returned (foldG old m n (s :: r)) ∧ Below w.heap.size w w' := by
  have HV : Hid (foldG old m n (s :: r) = .tuple #[.string ⟨#[]⟩, .string ⟨#[]⟩, .bool false]) := foldG_none h1 h2 (by
    unfold Pl.growth
    rw [hcon, if_neg (by simp)]
    show (if Pl.isSumB s = true then (if Pl.climbB (Pl.gsides m n) r = true then _ else none) else none) = none
    rw [if_pos hs, if_neg (by rw [hc]; simp)])
  have HG : Hid (∀ w, Calls Try.prog 87 #[.int .i64 ((m : Int) - 1), .int .i64 n] w fun e w' => ∃ v, e = .returned v ∧ OwnS w' w.heap.size v (Pl.gsides m n) ∧ Below w.heap.size w w') := fun w => by
    have := tgsides_any n (m - 1) w h40 (by omega)
    rwa [show ((m - 1 : Nat) : Int) = (m : Int) - 1 by omega, show m - 1 + 1 = m by omega] at this
  have hSl := Nat.le_trans (Pl.gsides_length n m h1 h2) h40
  have hs4 := isSumB_size hs
  have HI : Hid _ := fun w => tis_any s w (by rw [hs4]; decide)
  rw [hs] at HI
  have HPr : Hid _ := hPr
  clear hPr
  generalize Pl.gsides m n = S at *
  go_enter Try.func57, Try.ntmps57
  go_wp2_with fail
  refine (HG.out _).mono ?_
  rintro e w1 ⟨v1, rfl, ho1, hb1⟩
  obtain ⟨q, sc, rfl, hsc, hscm, hsr, hsB⟩ := ho1.open2
  have HT : Hid _ := fun w (h : SRow w q S) => tcontains_any q sc S w hSl h
  rw [hcon] at HT
  have hP1 := HPr.out.grow hb1 (Nat.le_refl _)
  go_wp2_with fail
  refine (HT.out _ hsr).mono ?_
  rintro e w2 ⟨rfl, rfl⟩
  rcases hP1.cell with h0 | ⟨b', o', he, hbl, hcell⟩
  · cases h0
  simp only [Option.some.injEq, Addr.mk.injEq, and_true] at he
  obtain ⟨rfl, rfl⟩ := he
  have hc0 := hcell 0 (by simp)
  have hP1' : Row w2 (if cap = 1 then some ⟨b, o, none⟩ else some ⟨b, o + 1, none⟩) r := by
    by_cases h1c : cap = 1
    · obtain rfl : r = [] := List.eq_nil_of_length_eq_zero (by omega)
      exact ⟨by simp, by simp, Or.inl rfl⟩
    · rw [if_neg h1c]
      exact hP1.drop 1
  simp only [Nat.add_zero, List.getElem_cons_zero] at hc0
  clear hcell
  go_wp2_with fail
  refine (HI.out _).mono ?_
  rintro e w3 ⟨rfl, rfl⟩
  go_wp2_with fail
  go_quiet (fail)
  have hk1 := below_drewN hb1 nq
  have hP2 := hP1'.grow (below_drewN (Below.refl _ w3) nq) (Nat.le_refl _)
  have hsr2 : SRow (w3.drewN nq) q S := hsr.but (R := w3.heap.size) (But.of (below_drewN (Below.refl _ _) nq)) (fun g hg => by have := hsB g hg; omega)
  have hsB2 : ∀ g, q = some ⟨g, 0, none⟩ → g < (w3.drewN nq).heap.size := fun g hg => hsB g hg
  generalize w3.drewN nq = W at *
  generalize (if cap = 1 then some (⟨b, o, none⟩ : Addr) else some ⟨b, o + 1, none⟩) = p' at *
  have HC : Hid _ := climb_new s S r q p' sc (cap - 1) w W hs4 hSl hsr2 hsB2 hP2 hsc hscm hk1
  clear hsr hsB hsr2 hsB2 hP2 hP1' hP1 hk1 hb1 ho1 hc0 HI HT HPr hbl
  rw [hc] at HC
  go_wp2_with fail
  refine Calls.mono HC.out ?_
  rintro e w5 ⟨rfl, hk5, hR5, hF5⟩
  clear HC hR5 hF5
  go_wp2_with fail
  rw [HV.out]
  refine bodyPost_ret (v := .tuple #[.string ⟨#[]⟩, .string ⟨#[]⟩, .bool false]) (by simp [results, Try.results57, go_sem]) rfl ⟨rfl, hk5⟩


set_option maxRecDepth 100000 in
set_option maxHeartbeats 4000000 in
theorem tgrow_e (old : ByteArray) (m n : Nat) (p : Option Addr) (cap : Nat) (w : World) (h1 : 1 ≤ m) (h2 : m ≤ n) (h40 : n ≤ 40) (hcon : (Pl.gsides m n).contains true = true) :
    Calls Try.prog 57 #[.string old, .int .i64 m, .int .i64 n, .slice p 0 cap] w fun e w' => e = .returned (foldG old m n []) ∧ Below w.heap.size w w' := by
  have HV : Hid (foldG old m n [] = .tuple #[.string ⟨#[]⟩, .string ⟨#[]⟩, .bool false]) := foldG_none h1 h2 (by
    unfold Pl.growth
    rw [hcon, if_neg (by simp)])
  have HG : Hid (∀ w, Calls Try.prog 87 #[.int .i64 ((m : Int) - 1), .int .i64 n] w fun e w' => ∃ v, e = .returned v ∧ OwnS w' w.heap.size v (Pl.gsides m n) ∧ Below w.heap.size w w') := fun w => by
    have := tgsides_any n (m - 1) w h40 (by omega)
    rwa [show ((m - 1 : Nat) : Int) = (m : Int) - 1 by omega, show m - 1 + 1 = m by omega] at this
  have hSl := Nat.le_trans (Pl.gsides_length n m h1 h2) h40
  generalize Pl.gsides m n = S at *
  go_enter Try.func57, Try.ntmps57
  go_wp2_with fail
  refine (HG.out _).mono ?_
  rintro e w1 ⟨v1, rfl, ho1, hb1⟩
  obtain ⟨q, sc, rfl, hsc, hscm, hsr, hsB⟩ := ho1.open2
  have HT : Hid _ := fun w (h : SRow w q S) => tcontains_any q sc S w hSl h
  rw [hcon] at HT
  go_wp2_with fail
  refine (HT.out _ hsr).mono ?_
  rintro e w2 ⟨rfl, rfl⟩
  go_wp2_with fail
  rw [HV.out]
  refine bodyPost_ret (v := .tuple #[.string ⟨#[]⟩, .string ⟨#[]⟩, .bool false]) (by simp [results, Try.results57, go_sem]) rfl ⟨rfl, hb1⟩

set_option maxRecDepth 100000 in
set_option maxHeartbeats 4000000 in
theorem tgrow_s (old s : ByteArray) (m n : Nat) (r : List ByteArray) (b o cap : Nat) (w : World) (hs : Pl.isSumB s = false) (h1 : 1 ≤ m) (h2 : m ≤ n) (h40 : n ≤ 40) (hPr : Row w (some ⟨b, o, none⟩) (s :: r)) (hcon : (Pl.gsides m n).contains true = true) :
    Calls Try.prog 57 #[.string old, .int .i64 m, .int .i64 n, .slice (some ⟨b, o, none⟩) (r.length + 1) cap] w fun e w' => e = .returned (foldG old m n (s :: r)) ∧ Below w.heap.size w w' := by
  have HV : Hid (foldG old m n (s :: r) = .tuple #[.string ⟨#[]⟩, .string ⟨#[]⟩, .bool false]) := foldG_none h1 h2 (by
    unfold Pl.growth
    rw [hcon, if_neg (by simp)]
    show (if Pl.isSumB s = true then _ else none) = none
    rw [if_neg (by rw [hs]; simp)])
  have HG : Hid (∀ w, Calls Try.prog 87 #[.int .i64 ((m : Int) - 1), .int .i64 n] w fun e w' => ∃ v, e = .returned v ∧ OwnS w' w.heap.size v (Pl.gsides m n) ∧ Below w.heap.size w w') := fun w => by
    have := tgsides_any n (m - 1) w h40 (by omega)
    rwa [show ((m - 1 : Nat) : Int) = (m : Int) - 1 by omega, show m - 1 + 1 = m by omega] at this
  have hSl := Nat.le_trans (Pl.gsides_length n m h1 h2) h40
  have HI : Hid _ := fun w => tis_any s w (hPr.size s (by simp))
  rw [hs] at HI
  have HPr : Hid _ := hPr
  clear hPr
  generalize Pl.gsides m n = S at *
  go_enter Try.func57, Try.ntmps57
  go_wp2_with fail
  refine (HG.out _).mono ?_
  rintro e w1 ⟨v1, rfl, ho1, hb1⟩
  obtain ⟨q, sc, rfl, hsc, hscm, hsr, hsB⟩ := ho1.open2
  have HT : Hid _ := fun w (h : SRow w q S) => tcontains_any q sc S w hSl h
  rw [hcon] at HT
  have hP1 := HPr.out.grow hb1 (Nat.le_refl _)
  go_wp2_with fail
  refine (HT.out _ hsr).mono ?_
  rintro e w2 ⟨rfl, rfl⟩
  rcases hP1.cell with h0 | ⟨b', o', he, hbl, hcell⟩
  · cases h0
  simp only [Option.some.injEq, Addr.mk.injEq, and_true] at he
  obtain ⟨rfl, rfl⟩ := he
  have hc0 := hcell 0 (by simp)
  simp only [Nat.add_zero, List.getElem_cons_zero] at hc0
  clear hcell
  go_wp2_with fail
  refine (HI.out _).mono ?_
  rintro e w3 ⟨rfl, rfl⟩
  go_wp2_with fail
  rw [HV.out]
  refine bodyPost_ret (v := .tuple #[.string ⟨#[]⟩, .string ⟨#[]⟩, .bool false]) (by simp [results, Try.results57, go_sem]) rfl ⟨rfl, hb1⟩

theorem tgrow_any (old : ByteArray) (m n : Nat) (P : List ByteArray) (p : Option Addr) (cap : Nat) (w : World) (h4 : old.size = 4) (h1 : 1 ≤ m) (h2 : m ≤ n) (h40 : n ≤ 40) (hPr : Row w p P) (hcap : P.length ≤ cap) :
    Calls Try.prog 57 #[.string old, .int .i64 m, .int .i64 n, .slice p P.length cap] w fun e w' => e = .returned (foldG old m n P) ∧ Below w.heap.size w w' := by
  cases hcon : (Pl.gsides m n).contains true with
  | false =>
    cases hc : Pl.climbB (Pl.gsides m n) P with
    | true => exact tgrow_Ay old m n P p cap w h4 h1 h2 h40 hPr hcon hc
    | false => exact tgrow_An old m n P p cap w h4 h1 h2 h40 hPr hcon hc
  | true =>
    match P with
    | [] => exact tgrow_e old m n p cap w h1 h2 h40 hcon
    | s :: r =>
      rcases hPr.cell with h0 | ⟨b, o, rfl, _, _⟩
      · cases h0
      cases hs : Pl.isSumB s with
      | false => exact tgrow_s old s m n r b o cap w hs h1 h2 h40 hPr hcon
      | true =>
        cases hc : Pl.climbB (Pl.gsides m n) r with
        | true => exact tgrow_By old s m n r b o cap w hs h1 h2 h40 hPr hcap hcon hc
        | false => exact tgrow_Bn old s m n r b o cap w hs h1 h2 h40 hPr hcap hcon hc

end Go.Proofs.Ytnekilnfhkoogaa
