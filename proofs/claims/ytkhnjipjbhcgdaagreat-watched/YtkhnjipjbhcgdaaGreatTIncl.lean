import Derived.Test.YtkhnjipjbhcgdaaGreatTClimb
/-
  THE WALKS of tree.FoldLeaf, treehead.foldAnswer, treehead.mayBeAnswer.
-/
namespace Go.Proofs.YtkhnjipjbhcgdaaGreat
open Go.RowKit

/-- What a fold leaves, where the path folds: its roots in a block, the row of its texts. -/
structure FoldOut (B R : Nat) (v : Value) (l : List Value) (t : List ByteArray) (w' : World) : Prop where
  le : B ≤ R
  roots : Box w' R 9 l
  own : Own w' B v t
  size : ∀ s ∈ t, s.size ≤ 64
theorem FoldOut.grow {B R : Nat} {v : Value} {l : List Value} {t : List ByteArray} {w w' : World} (h : FoldOut B R v l t w) (hb : Below w.heap.size w w') : FoldOut B R v l t w' :=
  ⟨h.le, h.roots.grow hb h.roots.lt, h.own.grow hb, h.size⟩
theorem Own.weak {w : World} {B B' : Nat} {v : Value} {ss : List ByteArray} (h : Own w B v ss) (hB : B' ≤ B) : Own w B' v ss := by
  refine ⟨h.1, ?_⟩
  rcases h.2 with hn | ⟨g, cap, cur, rfl, hb, rest⟩
  · exact Or.inl hn
  · exact Or.inr ⟨g, cap, cur, rfl, Nat.le_trans hB hb, rest⟩
theorem FoldOut.weak {B B' R : Nat} {v : Value} {l : List Value} {t : List ByteArray} {w : World} (h : FoldOut B R v l t w) (hB : B' ≤ B) : FoldOut B' R v l t w :=
  ⟨Nat.le_trans hB h.le, h.roots, h.own.weak hB, h.size⟩
theorem Row.lt {w : World} {p : Option Addr} {ss : List ByteArray} (h : Row w p ss) : ∀ b o, ss ≠ [] → p = some ⟨b, o, none⟩ → b < w.heap.size := by
  intro b o hne hp
  rcases h.cell with h0 | ⟨b', o', he, hb, _⟩
  · exact absurd h0 hne
  · rw [hp] at he
    simp only [Option.some.injEq, Addr.mk.injEq, and_true] at he
    rw [he.1]
    exact hb
theorem Fo.new (w : World) : Fo (w.alloc (.cells #[.slice none 0 0, .slice none 0 0] 104)) w.heap.size w.heap.size (.slice none 0 0) (.slice none 0 0) [] :=
  ⟨Nat.le_refl _, Box.new w _ _, own_nil _ _, by simp, by simp⟩
/-- The roots are laid into the Fold, ahead of a new block. -/
theorem Fo.setRoots {w : World} {B F : Nat} {rv rv' v : Value} {ts : List ByteArray} (h : Fo w B F rv v ts) (o : Obj) : Fo ((w.setCell ⟨F, 0, none⟩ rv').alloc o) B F rv' v ts := by
  have hT : Turn (fun k => k = F) w (w.setCell ⟨F, 0, none⟩ rv') := (Turn.refl (fun k => k = F) w).setCell (fun _ => rfl) rv'
  have h1 : Fo (w.setCell ⟨F, 0, none⟩ rv') B F rv' v ts := by
    refine ⟨h.le, h.box.set 0 rv', h.own.turn hT ?_, h.short, h.size⟩
    rintro k hk rfl
    exact h.ne hk
  exact h1.grow ((Below.refl _ _).alloc (Nat.le_refl _) _)

set_option maxRecDepth 100000 in
set_option maxHeartbeats 4000000 in
theorem tfoldleaf_no (leaf : ByteArray) (i n : Nat) (P : List ByteArray) (p : Option Addr) (cap : Nat) (w : World) (hl : leaf.size ≤ 30) (h1 : 1 ≤ n) (h40 : n ≤ 40) (hi : i < n) (hPr : Row w p P) (hT : Pl.leafT leaf i n P = none) :
    Calls Tryz.prog 81 #[.string leaf, .int .i64 i, .int .i64 n, .slice p P.length cap] w fun e w' => e = .returned (.tuple #[.agg #[.slice none 0 0, .slice none 0 0], .bool false]) ∧ Below w.heap.size w w' := by
  have hc : Pl.climbB (Pl.lsides i n) P = false := by
    have h := Pl.leafT_climb leaf n i P h1 hi
    rw [hT] at h
    cases hb : Pl.climbB (Pl.lsides i n) P with
    | false => rfl
    | true => rw [hb] at h; simp at h
  clear hT
  have hz1 : (w.alloc (.cells #[.slice none 0 0, .slice none 0 0] 104)).heap.size = w.heap.size + 1 := by simp
  have hFo : Fo ((w.alloc (.cells #[.slice none 0 0, .slice none 0 0] 104)).alloc (.cells #[.slice none 0 0, .slice none 0 0] 104)) (w.heap.size + 1) (w.heap.size + 1) (.slice none 0 0) (.slice none 0 0) [] := by
    have := Fo.new (w.alloc (.cells #[.slice none 0 0, .slice none 0 0] 104))
    rwa [hz1] at this
  have hz2 : ((w.alloc (.cells #[.slice none 0 0, .slice none 0 0] 104)).alloc (.cells #[.slice none 0 0, .slice none 0 0] 104)).heap.size = w.heap.size + 2 := by simp
  have hRes : Box ((w.alloc (.cells #[.slice none 0 0, .slice none 0 0] 104)).alloc (.cells #[.slice none 0 0, .slice none 0 0] 104)) w.heap.size 104 [.slice none 0 0, .slice none 0 0] := (Box.new w 104 [.slice none 0 0, .slice none 0 0]).alloc _
  have hk0 : Below w.heap.size w ((w.alloc (.cells #[.slice none 0 0, .slice none 0 0] 104)).alloc (.cells #[.slice none 0 0, .slice none 0 0] 104)) := ((Below.refl _ _).alloc (Nat.le_refl _) _).alloc (by simp) _
  have hO := fo_leaf (w.heap.size + 1) (w.heap.size + 1) (.slice none 0 0) (.slice none 0 0) [] leaf _ hFo (by simp) hl (by simp)
  rw [hz2, List.nil_append] at hO
  have HO : Hid _ := hO
  have HS : Hid _ := fun w => tlsides_any n i w h1 h40 hi
  have hSl := Nat.le_trans (Pl.lsides_length n i) h40
  have hr4 := sumB_size (Pl.textL leaf)
  have HPr : Hid _ := hPr
  clear hPr hO
  generalize Pl.lsides i n = S at *
  generalize Pl.textL leaf = T at *
  generalize Pl.sumB T = r at *
  go_enter Tryz.func81, Tryz.ntmps81
  go_wp2_with fail
  refine Calls.mono HO.out ?_
  rintro e w1 ⟨rfl, v1, hd⟩
  have hsz1 : w.heap.size + 2 ≤ w1.heap.size := by
    have := hd.turn.size
    omega
  have hF1 := hd.fo
  have hB1 : Below (w.heap.size + 1) ((w.alloc (.cells #[.slice none 0 0, .slice none 0 0] 104)).alloc (.cells #[.slice none 0 0, .slice none 0 0] 104)) w1 := hd.turn.below (Mine.le hFo) (by omega)
  have hRes1 := hRes.grow hB1 (by omega)
  have hk1 : Below w.heap.size w w1 := hk0.trans (hB1.mono (by omega))
  have c0 := hF1.box.cell 0
  have f0 := hF1.box.frozen 0
  have lF := hF1.box.lt
  clear hd hB1 hRes HO hFo hz1 hz2 hk0
  go_wp2_with fail
  have hF3 := hF1.setRoots (rv' := .slice (some ⟨w1.heap.size, 0, none⟩) 1 1) (.cells #[.string r] 9)
  have hR3 : Box ((w1.setCell ⟨w.heap.size + 1, 0, none⟩ (.slice (some ⟨w1.heap.size, 0, none⟩) 1 1)).alloc (.cells #[.string r] 9)) w1.heap.size 9 [.string r] := by
    have := Box.new (w1.setCell ⟨w.heap.size + 1, 0, none⟩ (.slice (some ⟨w1.heap.size, 0, none⟩) 1 1)) 9 [.string r]
    rwa [show (w1.setCell ⟨w.heap.size + 1, 0, none⟩ (.slice (some ⟨w1.heap.size, 0, none⟩) 1 1)).heap.size = w1.heap.size by simp] at this
  have hk3 : Below w.heap.size w ((w1.setCell ⟨w.heap.size + 1, 0, none⟩ (.slice (some ⟨w1.heap.size, 0, none⟩) 1 1)).alloc (.cells #[.string r] 9)) := (hk1.setCell (by simp) _).alloc (by simp; omega) _
  have hRes3 := (hRes1.other (B' := w.heap.size + 1) (by omega) 0 (.slice (some ⟨w1.heap.size, 0, none⟩) 1 1)).alloc (.cells #[.string r] 9)
  have hoff3 : ¬ Mine (w.heap.size + 1) v1 w1.heap.size := by
    rintro (h | h)
    · omega
    · have := hF1.own.lt _ h; omega
  have hsz3 : w1.heap.size + 1 ≤ ((w1.setCell ⟨w.heap.size + 1, 0, none⟩ (.slice (some ⟨w1.heap.size, 0, none⟩) 1 1)).alloc (.cells #[.string r] 9)).heap.size := by simp
  have hvl : ∀ g, some g = v1.ownBlock → g < w1.heap.size := fun g h => (hF1.own.lt g h).2
  have hvb : ∀ g, some g = v1.ownBlock → w.heap.size + 1 ≤ g := fun g h => (hF1.own.lt g h).1
  clear hF1 hRes1 hk1 c0 f0 lF
  generalize (w1.setCell ⟨w.heap.size + 1, 0, none⟩ (.slice (some ⟨w1.heap.size, 0, none⟩) 1 1)).alloc (.cells #[.string r] 9) = W3 at *
  generalize w1.heap.size = R at *
  go_wp2_with fail
  refine (HS.out _).mono ?_
  rintro e w4 ⟨v4, rfl, ho4, hb4⟩
  obtain ⟨q, sc, rfl, hsc, hscm, hsr, hsB⟩ := ho4.open
  have hF4 := hF3.grow hb4
  have hR4 := hR3.grow hb4 hR3.lt
  have hRes4 := hRes3.grow hb4 hRes3.lt
  have hk4 : Below w.heap.size w w4 := hk3.trans (hb4.mono hk3.size)
  have hP4 := HPr.out.grow hk4 (Nat.le_refl _)
  have hsz4 := hb4.size
  have hPR : ∀ b o, P ≠ [] → p = some ⟨b, o, none⟩ → ¬ (b = R ∨ Mine (w.heap.size + 1) v1 b) := by
    intro b o hne hp
    have hlt := HPr.out.lt b o hne hp
    rintro (h | h | h)
    · omega
    · omega
    · have := hvb b h; omega
  have hSR : ∀ g, q = some ⟨g, 0, none⟩ → ¬ (g = R ∨ Mine (w.heap.size + 1) v1 g) := by
    intro g hg
    have hlt := hsB g hg
    rintro (h | h | h)
    · omega
    · omega
    · have := hvl g h; omega
  have HC : Hid _ := tclimb_any (w.heap.size + 1) (w.heap.size + 1) R [r] v1 [T] S P q p sc cap w4 (Or.inl rfl) (by omega) (by omega) hF4 hR4 hoff3 (fun x hx => by simp at hx; rw [hx]; exact hr4) (by simp) hSl hsr hSR hP4 hPR hsc hscm
  unfold ClimbEnd at HC
  rw [hc] at HC
  clear hF3 hR3 hk3 hRes3 hF4 hR4 hP4 hPR hSR hsr hsB ho4 hb4
  go_wp2_with fail
  refine Calls.mono HC.out ?_
  rintro e w5 ⟨rfl, hb5, hst⟩
  have hRes5 := hRes4.grow hb5 (by omega)
  have hk5 := hk4.trans (hb5.mono (by omega))
  have g0 := hRes5.cell 0
  have g1 := hRes5.cell 1
  have f0 := hRes5.frozen 0
  have f1 := hRes5.frozen 1
  have lR := hRes5.lt
  clear hRes4 HC hb5
  clear hst
  go_wp2_with fail
  refine bodyPost_ret (v := .tuple #[.agg #[.slice none 0 0, .slice none 0 0], .bool false]) (by simp [results, Tryz.results81, go_sem, g0, g1]) rfl ⟨rfl, (hk5.setCell (by simp) _).setCell (by simp) _⟩

set_option maxRecDepth 100000 in
set_option maxHeartbeats 4000000 in
theorem tfoldleaf_yes (leaf : ByteArray) (i n : Nat) (P : List ByteArray) (p : Option Addr) (cap : Nat) (w : World) (hl : leaf.size ≤ 30) (h1 : 1 ≤ n) (h40 : n ≤ 40) (hi : i < n) (hPr : Row w p P) (t : List ByteArray) (x : ByteArray) (hT : Pl.leafT leaf i n P = some (t, x)) :
    Calls Tryz.prog 81 #[.string leaf, .int .i64 i, .int .i64 n, .slice p P.length cap] w fun e w' => ∃ R v, e = .returned (.tuple #[.agg #[.slice (some ⟨R, 0, none⟩) 1 1, v], .bool true]) ∧ FoldOut w.heap.size R v [.string x] t w' ∧ Below w.heap.size w w' := by
  obtain ⟨hc, hcx, hct⟩ := Pl.leafT_texts leaf n i P t x h1 hi hT
  have HX : Hid _ := hcx
  have HT : Hid _ := hct
  clear hT hcx hct
  have hz1 : (w.alloc (.cells #[.slice none 0 0, .slice none 0 0] 104)).heap.size = w.heap.size + 1 := by simp
  have hFo : Fo ((w.alloc (.cells #[.slice none 0 0, .slice none 0 0] 104)).alloc (.cells #[.slice none 0 0, .slice none 0 0] 104)) (w.heap.size + 1) (w.heap.size + 1) (.slice none 0 0) (.slice none 0 0) [] := by
    have := Fo.new (w.alloc (.cells #[.slice none 0 0, .slice none 0 0] 104))
    rwa [hz1] at this
  have hz2 : ((w.alloc (.cells #[.slice none 0 0, .slice none 0 0] 104)).alloc (.cells #[.slice none 0 0, .slice none 0 0] 104)).heap.size = w.heap.size + 2 := by simp
  have hRes : Box ((w.alloc (.cells #[.slice none 0 0, .slice none 0 0] 104)).alloc (.cells #[.slice none 0 0, .slice none 0 0] 104)) w.heap.size 104 [.slice none 0 0, .slice none 0 0] := (Box.new w 104 [.slice none 0 0, .slice none 0 0]).alloc _
  have hk0 : Below w.heap.size w ((w.alloc (.cells #[.slice none 0 0, .slice none 0 0] 104)).alloc (.cells #[.slice none 0 0, .slice none 0 0] 104)) := ((Below.refl _ _).alloc (Nat.le_refl _) _).alloc (by simp) _
  have hO := fo_leaf (w.heap.size + 1) (w.heap.size + 1) (.slice none 0 0) (.slice none 0 0) [] leaf _ hFo (by simp) hl (by simp)
  rw [hz2, List.nil_append] at hO
  have HO : Hid _ := hO
  have HS : Hid _ := fun w => tlsides_any n i w h1 h40 hi
  have hSl := Nat.le_trans (Pl.lsides_length n i) h40
  have hr4 := sumB_size (Pl.textL leaf)
  have HPr : Hid _ := hPr
  clear hPr hO
  generalize Pl.lsides i n = S at *
  generalize Pl.textL leaf = T at *
  generalize Pl.sumB T = r at *
  go_enter Tryz.func81, Tryz.ntmps81
  go_wp2_with fail
  refine Calls.mono HO.out ?_
  rintro e w1 ⟨rfl, v1, hd⟩
  have hsz1 : w.heap.size + 2 ≤ w1.heap.size := by
    have := hd.turn.size
    omega
  have hF1 := hd.fo
  have hB1 : Below (w.heap.size + 1) ((w.alloc (.cells #[.slice none 0 0, .slice none 0 0] 104)).alloc (.cells #[.slice none 0 0, .slice none 0 0] 104)) w1 := hd.turn.below (Mine.le hFo) (by omega)
  have hRes1 := hRes.grow hB1 (by omega)
  have hk1 : Below w.heap.size w w1 := hk0.trans (hB1.mono (by omega))
  have c0 := hF1.box.cell 0
  have f0 := hF1.box.frozen 0
  have lF := hF1.box.lt
  clear hd hB1 hRes HO hFo hz1 hz2 hk0
  go_wp2_with fail
  have hF3 := hF1.setRoots (rv' := .slice (some ⟨w1.heap.size, 0, none⟩) 1 1) (.cells #[.string r] 9)
  have hR3 : Box ((w1.setCell ⟨w.heap.size + 1, 0, none⟩ (.slice (some ⟨w1.heap.size, 0, none⟩) 1 1)).alloc (.cells #[.string r] 9)) w1.heap.size 9 [.string r] := by
    have := Box.new (w1.setCell ⟨w.heap.size + 1, 0, none⟩ (.slice (some ⟨w1.heap.size, 0, none⟩) 1 1)) 9 [.string r]
    rwa [show (w1.setCell ⟨w.heap.size + 1, 0, none⟩ (.slice (some ⟨w1.heap.size, 0, none⟩) 1 1)).heap.size = w1.heap.size by simp] at this
  have hk3 : Below w.heap.size w ((w1.setCell ⟨w.heap.size + 1, 0, none⟩ (.slice (some ⟨w1.heap.size, 0, none⟩) 1 1)).alloc (.cells #[.string r] 9)) := (hk1.setCell (by simp) _).alloc (by simp; omega) _
  have hRes3 := (hRes1.other (B' := w.heap.size + 1) (by omega) 0 (.slice (some ⟨w1.heap.size, 0, none⟩) 1 1)).alloc (.cells #[.string r] 9)
  have hoff3 : ¬ Mine (w.heap.size + 1) v1 w1.heap.size := by
    rintro (h | h)
    · omega
    · have := hF1.own.lt _ h; omega
  have hsz3 : w1.heap.size + 1 ≤ ((w1.setCell ⟨w.heap.size + 1, 0, none⟩ (.slice (some ⟨w1.heap.size, 0, none⟩) 1 1)).alloc (.cells #[.string r] 9)).heap.size := by simp
  have hvl : ∀ g, some g = v1.ownBlock → g < w1.heap.size := fun g h => (hF1.own.lt g h).2
  have hvb : ∀ g, some g = v1.ownBlock → w.heap.size + 1 ≤ g := fun g h => (hF1.own.lt g h).1
  clear hF1 hRes1 hk1 c0 f0 lF
  generalize (w1.setCell ⟨w.heap.size + 1, 0, none⟩ (.slice (some ⟨w1.heap.size, 0, none⟩) 1 1)).alloc (.cells #[.string r] 9) = W3 at *
  generalize w1.heap.size = R at *
  go_wp2_with fail
  refine (HS.out _).mono ?_
  rintro e w4 ⟨v4, rfl, ho4, hb4⟩
  obtain ⟨q, sc, rfl, hsc, hscm, hsr, hsB⟩ := ho4.open
  have hF4 := hF3.grow hb4
  have hR4 := hR3.grow hb4 hR3.lt
  have hRes4 := hRes3.grow hb4 hRes3.lt
  have hk4 : Below w.heap.size w w4 := hk3.trans (hb4.mono hk3.size)
  have hP4 := HPr.out.grow hk4 (Nat.le_refl _)
  have hsz4 := hb4.size
  have hPR : ∀ b o, P ≠ [] → p = some ⟨b, o, none⟩ → ¬ (b = R ∨ Mine (w.heap.size + 1) v1 b) := by
    intro b o hne hp
    have hlt := HPr.out.lt b o hne hp
    rintro (h | h | h)
    · omega
    · omega
    · have := hvb b h; omega
  have hSR : ∀ g, q = some ⟨g, 0, none⟩ → ¬ (g = R ∨ Mine (w.heap.size + 1) v1 g) := by
    intro g hg
    have hlt := hsB g hg
    rintro (h | h | h)
    · omega
    · omega
    · have := hvl g h; omega
  have HC : Hid _ := tclimb_any (w.heap.size + 1) (w.heap.size + 1) R [r] v1 [T] S P q p sc cap w4 (Or.inl rfl) (by omega) (by omega) hF4 hR4 hoff3 (fun x hx => by simp at hx; rw [hx]; exact hr4) (by simp) hSl hsr hSR hP4 hPR hsc hscm
  unfold ClimbEnd at HC
  rw [hc] at HC
  clear hF3 hR3 hk3 hRes3 hF4 hR4 hP4 hPR hSR hsr hsB ho4 hb4
  go_wp2_with fail
  refine Calls.mono HC.out ?_
  rintro e w5 ⟨rfl, hb5, hst⟩
  have hRes5 := hRes4.grow hb5 (by omega)
  have hk5 := hk4.trans (hb5.mono (by omega))
  have g0 := hRes5.cell 0
  have g1 := hRes5.cell 1
  have f0 := hRes5.frozen 0
  have f1 := hRes5.frozen 1
  have lR := hRes5.lt
  clear hRes4 HC hb5
  obtain ⟨v6, hst⟩ := hst (by first | rfl | trivial)
  have HST : Hid _ := hst
  have d0 := hst.fo.box.cell 0
  have d1 := hst.fo.box.cell 1
  obtain ⟨p6, c6, hv6⟩ := own_slice hst.fo.own
  subst hv6
  clear hst
  go_wp2_with fail
  refine bodyPost_ret (v := .tuple #[.agg #[.slice (some ⟨R, 0, none⟩) 1 1, .slice p6 ([T] ++ Pl.climbT [r] S P).length c6], .bool true]) (by simp [results, Tryz.results81, go_sem, g0, g1]) rfl ⟨R, _, rfl, ?_, (hk5.setCell (by simp) _).setCell (by simp) _⟩
  have hst := HST.out
  have hr := hst.roots
  rw [HX.out] at hr
  have hRne : R ≠ w.heap.size := by omega
  have hT2 : ∀ (u1 u2 : Value), Turn (fun k => k = w.heap.size) w5 ((w5.setCell ⟨w.heap.size, 0, none⟩ u1).setCell ⟨w.heap.size, 1, none⟩ u2) := fun u1 u2 => ((Turn.refl (fun k => k = w.heap.size) w5).setCell (fun _ => rfl) u1).setCell (fun _ => rfl) u2
  have htt : t = [T] ++ Pl.climbT [r] S P := HT.out
  refine FoldOut.mk (by omega) ((hr.other hRne _ _).other hRne _ _) ?_ ?_
  · rw [htt]
    refine ((hst.fo.own.turn (hT2 _ _) ?_).weak (by omega))
    rintro k hk rfl
    have := (hst.fo.own.lt _ hk).1
    omega
  · rw [htt]
    exact hst.fo.size

set_option maxRecDepth 100000 in
set_option maxHeartbeats 1000000 in
theorem tmayans_any (size index : Int) (leaf : ByteArray) (pv : Value) (w : World) (hl : leaf.size ≤ maxLen) (hpv : ∃ p n cap, pv = .slice p n cap) :
    Calls Tryz.prog 69 #[.agg #[.int .i64 size, .int .i64 index, .string leaf, pv]] w fun e w' => e = .returned (.bool (Pl.ansB size index leaf)) ∧ Below w.heap.size w w' := by
  obtain ⟨p, n, cap, rfl⟩ := hpv
  unfold maxLen at hl
  have hB0 : Below w.heap.size w (w.alloc (.cells #[.int .i64 size, .int .i64 index, .string leaf, .slice p n cap] 37)) := (Below.refl _ _).alloc (Nat.le_refl _) _
  have HD : Hid (Pl.ansB size index leaf = (decide (1 ≤ size) && decide (size ≤ 40) && decide (0 ≤ index) && decide (index < size) && decide (leaf.size ≤ 30))) := rfl
  by_cases h1 : 1 ≤ size
  · by_cases h2 : size ≤ 40
    · by_cases h3 : 0 ≤ index
      · by_cases h4 : index < size
        · by_cases h5 : leaf.size ≤ 30
          · have HX : Hid (Pl.ansB size index leaf = true) := by show _ = _; rw [HD.out]; simp [h1, h2, h3, h4, h5]
            have hb5 : decide ((leaf.size : Int) ≤ 30) = true := decide_eq_true (by omega)
            go_enter Tryz.func69, Tryz.ntmps69
            go_wp2
            go_ret
            exact ⟨ret_bool HX.out.symm, hB0⟩
          · have HX : Hid (Pl.ansB size index leaf = false) := by show _ = _; rw [HD.out]; simp [h5]
            have hb5 : decide ((leaf.size : Int) ≤ 30) = false := decide_eq_false (by omega)
            go_enter Tryz.func69, Tryz.ntmps69
            go_wp2
            go_ret
            exact ⟨ret_bool HX.out.symm, hB0⟩
        · have HX : Hid (Pl.ansB size index leaf = false) := by show _ = _; rw [HD.out]; simp [h4]
          go_enter Tryz.func69, Tryz.ntmps69
          go_wp2
          go_ret
          exact ⟨ret_bool HX.out.symm, hB0⟩
      · have HX : Hid (Pl.ansB size index leaf = false) := by show _ = _; rw [HD.out]; simp [h3]
        go_enter Tryz.func69, Tryz.ntmps69
        go_wp2
        go_ret
        exact ⟨ret_bool HX.out.symm, hB0⟩
    · have HX : Hid (Pl.ansB size index leaf = false) := by show _ = _; rw [HD.out]; simp [h2]
      go_enter Tryz.func69, Tryz.ntmps69
      go_wp2
      go_ret
      exact ⟨ret_bool HX.out.symm, hB0⟩
  · have HX : Hid (Pl.ansB size index leaf = false) := by show _ = _; rw [HD.out]; simp [h1]
    go_enter Tryz.func69, Tryz.ntmps69
    go_wp2
    go_ret
    exact ⟨ret_bool HX.out.symm, hB0⟩


end Go.Proofs.YtkhnjipjbhcgdaaGreat
