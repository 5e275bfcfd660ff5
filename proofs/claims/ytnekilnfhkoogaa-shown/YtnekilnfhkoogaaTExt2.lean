/-
  THE WALK of treehead.Extended.
-/
import Derived.Test.YtnekilnfhkoogaaTExt
namespace Go.Proofs.Ytnekilnfhkoogaa
open Go.RowKit Hp

set_option maxRecDepth 100000 in
set_option maxHeartbeats 4000000 in
theorem text_arg (os fs : Int) (a b : ByteArray) (p : Option Addr) (n cap : Nat) (w : World) (ha : a.size ≤ maxLen) (hb : b.size ≤ maxLen) (h : ¬ (Pl.isSumB a = true ∧ Pl.isSumB b = true ∧ 1 ≤ os ∧ os ≤ fs ∧ fs ≤ 40)) :
    Calls Try.prog 26 #[.agg #[.int .i64 os, .string a], .agg #[.int .i64 fs, .string b], .slice p n cap] w fun e w' => e = .returned (.int .i64 1) ∧ Below w.heap.size w w' := by
  have HA : Hid (∀ w, Calls Try.prog 56 #[.agg #[.int .i64 os, .string a]] w fun e w' => e = .returned (.bool (decide (0 ≤ os) && decide (os ≤ 40) && Pl.isSumB a)) ∧ Below w.heap.size w w') := fun w => tmayhead_any os a w ha
  have HB : Hid (∀ w, Calls Try.prog 56 #[.agg #[.int .i64 fs, .string b]] w fun e w' => e = .returned (.bool (decide (0 ≤ fs) && decide (fs ≤ 40) && Pl.isSumB b)) ∧ Below w.heap.size w w') := fun w => tmayhead_any fs b w hb
  have hB0 : Below w.heap.size w ((w.alloc (.cells #[.int .i64 os, .string a] 38)).alloc (.cells #[.int .i64 fs, .string b] 38)) := ((Below.refl _ _).alloc (Nat.le_refl _) _).alloc (by simp) _
  have hx0 : Box ((w.alloc (.cells #[.int .i64 os, .string a] 38)).alloc (.cells #[.int .i64 fs, .string b] 38)) w.heap.size 38 [.int .i64 os, .string a] := (Box.new w 38 [.int .i64 os, .string a]).alloc _
  have hy0 : Box ((w.alloc (.cells #[.int .i64 os, .string a] 38)).alloc (.cells #[.int .i64 fs, .string b] 38)) (w.heap.size + 1) 38 [.int .i64 fs, .string b] := by
    have := Box.new (w.alloc (.cells #[.int .i64 os, .string a] 38)) 38 [.int .i64 fs, .string b]
    rwa [show (w.alloc (.cells #[.int .i64 os, .string a] 38)).heap.size = w.heap.size + 1 by simp] at this
  cases hxa : (decide (0 ≤ os) && decide (os ≤ 40) && Pl.isSumB a) with
  | false =>
    rw [hxa] at HA
    clear h hxa
    go_enter Try.func26, Try.ntmps26
    go_wp2_with fail
    refine (HA.out _).mono ?_
    rintro e w1 ⟨rfl, hb1⟩
    go_wp2_with fail
    go_ret
    exact ⟨rfl, hB0.trans (hb1.mono hB0.size)⟩
  | true =>
    rw [hxa] at HA
    cases hxb : (decide (0 ≤ fs) && decide (fs ≤ 40) && Pl.isSumB b) with
    | false =>
      rw [hxb] at HB
      clear h hxa hxb
      go_enter Try.func26, Try.ntmps26
      go_wp2_with fail
      refine (HA.out _).mono ?_
      rintro e w1 ⟨rfl, hb1⟩
      have hk1 := hB0.trans (hb1.mono hB0.size)
      have hy1 := hy0.grow hb1 hy0.lt
      have c0 := hy1.cell 0
      have c1 := hy1.cell 1
      clear hb1
      go_wp2_with fail
      refine (HB.out _).mono ?_
      rintro e w2 ⟨rfl, hb2⟩
      go_wp2_with fail
      go_ret
      exact ⟨rfl, hk1.trans (hb2.mono hk1.size)⟩
    | true =>
      rw [hxb] at HB
      simp only [Bool.and_eq_true, decide_eq_true_iff] at hxa hxb
      have hor : os < 1 ∨ (1 ≤ os ∧ fs < os) := by
        by_cases h1 : 1 ≤ os
        · by_cases h2 : os ≤ fs
          · exact absurd ⟨hxa.2, hxb.2, h1, h2, hxb.1.2⟩ h
          · exact Or.inr ⟨h1, by omega⟩
        · exact Or.inl (by omega)
      clear h hxa hxb
      rcases hor with hor | ⟨hor1, hor⟩
      · go_enter Try.func26, Try.ntmps26
        go_wp2_with fail
        refine (HA.out _).mono ?_
        rintro e w1 ⟨rfl, hb1⟩
        have hk1 := hB0.trans (hb1.mono hB0.size)
        have hy1 := hy0.grow hb1 hy0.lt
        have hx1 := hx0.grow hb1 hx0.lt
        have c0 := hy1.cell 0
        have c1 := hy1.cell 1
        clear hb1
        go_wp2_with fail
        refine (HB.out _).mono ?_
        rintro e w2 ⟨rfl, hb2⟩
        have hx2 := hx1.grow hb2 hx1.lt
        have d0 := hx2.cell 0
        go_wp2_with fail
        go_ret
        exact ⟨rfl, hk1.trans (hb2.mono hk1.size)⟩
      · go_enter Try.func26, Try.ntmps26
        go_wp2_with fail
        refine (HA.out _).mono ?_
        rintro e w1 ⟨rfl, hb1⟩
        have hk1 := hB0.trans (hb1.mono hB0.size)
        have hy1 := hy0.grow hb1 hy0.lt
        have hx1 := hx0.grow hb1 hx0.lt
        have c0 := hy1.cell 0
        have c1 := hy1.cell 1
        clear hb1
        go_wp2_with fail
        refine (HB.out _).mono ?_
        rintro e w2 ⟨rfl, hb2⟩
        have hx2 := hx1.grow hb2 hx1.lt
        have hy2 := hy1.grow hb2 hy1.lt
        have d0 := hx2.cell 0
        have d1 := hy2.cell 0
        go_wp2_with fail
        go_ret
        exact ⟨rfl, hk1.trans (hb2.mono hk1.size)⟩

set_option maxRecDepth 100000 in
set_option maxHeartbeats 4000000 in
theorem text_fold (os fs : Nat) (a b : ByteArray) (p : Option Addr) (cap : Nat) (P : List ByteArray) (w : World) (h1 : Pl.isSumB a = true) (h2 : Pl.isSumB b = true) (h3 : 1 ≤ os) (h4 : os ≤ fs) (h5 : fs ≤ 40) (hPr : Row w p P) (hcap : P.length ≤ cap) (V : Value) (x : Int)
    (hV : foldG a os fs P = V) (hx : (V = .tuple #[.string ⟨#[]⟩, .string ⟨#[]⟩, .bool false] ∧ x = 6) ∨ ∃ c d, V = .tuple #[.string c, .string d, .bool true] ∧ x = (if c = a ∧ d = b then 0 else 6)) :
    Calls Try.prog 26 #[.agg #[.int .i64 os, .string a], .agg #[.int .i64 fs, .string b], .slice p P.length cap] w fun e w' => e = .returned (.int .i64 x) ∧ Below w.heap.size w w' := by
  have ha4 := isSumB_size h1
  have hb4 := isSumB_size h2
  have HA : Hid (∀ w, Calls Try.prog 56 #[.agg #[.int .i64 os, .string a]] w fun e w' => e = .returned (.bool true) ∧ Below w.heap.size w w') := fun w => by
    have := tmayhead_any os a w (by rw [ha4]; decide)
    rwa [h1, decide_eq_true (show (0 : Int) ≤ (os : Int) by omega), decide_eq_true (show (os : Int) ≤ 40 by omega)] at this
  have HB : Hid (∀ w, Calls Try.prog 56 #[.agg #[.int .i64 fs, .string b]] w fun e w' => e = .returned (.bool true) ∧ Below w.heap.size w w') := fun w => by
    have := tmayhead_any fs b w (by rw [hb4]; decide)
    rwa [h2, decide_eq_true (show (0 : Int) ≤ (fs : Int) by omega), decide_eq_true (show (fs : Int) ≤ 40 by omega)] at this
  have HG : Hid (∀ w, Row w p P → Calls Try.prog 57 #[.string a, .int .i64 os, .int .i64 fs, .slice p P.length cap] w fun e w' => e = .returned V ∧ Below w.heap.size w w') := fun w h => by
    have := tgrow_any a os fs P p cap w ha4 h3 h4 h5 h hcap
    rwa [hV] at this
  have hB0 : Below w.heap.size w ((w.alloc (.cells #[.int .i64 os, .string a] 38)).alloc (.cells #[.int .i64 fs, .string b] 38)) := ((Below.refl _ _).alloc (Nat.le_refl _) _).alloc (by simp) _
  have hx0 : Box ((w.alloc (.cells #[.int .i64 os, .string a] 38)).alloc (.cells #[.int .i64 fs, .string b] 38)) w.heap.size 38 [.int .i64 os, .string a] := (Box.new w 38 [.int .i64 os, .string a]).alloc _
  have hy0 : Box ((w.alloc (.cells #[.int .i64 os, .string a] 38)).alloc (.cells #[.int .i64 fs, .string b] 38)) (w.heap.size + 1) 38 [.int .i64 fs, .string b] := by
    have := Box.new (w.alloc (.cells #[.int .i64 os, .string a] 38)) 38 [.int .i64 fs, .string b]
    rwa [show (w.alloc (.cells #[.int .i64 os, .string a] 38)).heap.size = w.heap.size + 1 by simp] at this
  have HPr : Hid _ := hPr
  clear hPr h1 h2 hV
  rcases hx with ⟨rfl, rfl⟩ | ⟨c, d, rfl, hx⟩
  · go_enter Try.func26, Try.ntmps26
    go_wp2_with fail
    refine (HA.out _).mono ?_
    rintro e w1 ⟨rfl, hb1⟩
    have hk1 := hB0.trans (hb1.mono hB0.size)
    have hy1 := hy0.grow hb1 hy0.lt
    have hx1 := hx0.grow hb1 hx0.lt
    have c0 := hy1.cell 0
    have c1 := hy1.cell 1
    clear hb1
    go_wp2_with fail
    refine (HB.out _).mono ?_
    rintro e w2 ⟨rfl, hb2⟩
    have hk2 := hk1.trans (hb2.mono hk1.size)
    have hx2 := hx1.grow hb2 hx1.lt
    have hy2 := hy1.grow hb2 hy1.lt
    have d0 := hx2.cell 0
    have d1 := hx2.cell 1
    have d2 := hy2.cell 0
    clear hb2 hx0 hy0 hB0 hx1 hy1 c0 c1
    go_wp2_with fail
    refine (HG.out _ (HPr.out.grow hk2 (Nat.le_refl _))).mono ?_
    rintro e w3 ⟨rfl, hb3⟩
    go_wp2_with fail
    go_ret
    exact ⟨rfl, hk2.trans (hb3.mono hk2.size)⟩
  · have HX : Hid (x = if c = a ∧ d = b then 0 else 6) := hx
    clear hx
    by_cases hca : c = a
    · by_cases hdb : d = b
      · have HE : Hid (x = 0) := by show _ = _; rw [HX.out, if_pos ⟨hca, hdb⟩]
        subst hca hdb
        clear HX
        go_enter Try.func26, Try.ntmps26
        go_wp2_with fail
        refine (HA.out _).mono ?_
        rintro e w1 ⟨rfl, hb1⟩
        have hk1 := hB0.trans (hb1.mono hB0.size)
        have hy1 := hy0.grow hb1 hy0.lt
        have hx1 := hx0.grow hb1 hx0.lt
        have c0 := hy1.cell 0
        have c1 := hy1.cell 1
        clear hb1
        go_wp2_with fail
        refine (HB.out _).mono ?_
        rintro e w2 ⟨rfl, hb2⟩
        have hk2 := hk1.trans (hb2.mono hk1.size)
        have hx2 := hx1.grow hb2 hx1.lt
        have hy2 := hy1.grow hb2 hy1.lt
        have d0 := hx2.cell 0
        have d1 := hx2.cell 1
        have d2 := hy2.cell 0
        clear hb2 hx0 hy0 hB0 hx1 hy1 c0 c1
        go_wp2_with fail
        refine (HG.out _ (HPr.out.grow hk2 (Nat.le_refl _))).mono ?_
        rintro e w3 ⟨rfl, hb3⟩
        have hx3 := hx2.grow hb3 hx2.lt
        have hy3 := hy2.grow hb3 hy2.lt
        have e1 := hx3.cell 1
        have e2 := hy3.cell 1
        go_wp2_with fail
        go_ret
        exact ⟨ret_int HE.out.symm, hk2.trans (hb3.mono hk2.size)⟩
      · have HE : Hid (x = 6) := by show _ = _; rw [HX.out, if_neg fun h => hdb h.2]
        have hne := bytes_ne hdb
        subst hca
        clear HX hdb
        go_enter Try.func26, Try.ntmps26
        go_wp2_with fail
        refine (HA.out _).mono ?_
        rintro e w1 ⟨rfl, hb1⟩
        have hk1 := hB0.trans (hb1.mono hB0.size)
        have hy1 := hy0.grow hb1 hy0.lt
        have hx1 := hx0.grow hb1 hx0.lt
        have c0 := hy1.cell 0
        have c1 := hy1.cell 1
        clear hb1
        go_wp2_with fail
        refine (HB.out _).mono ?_
        rintro e w2 ⟨rfl, hb2⟩
        have hk2 := hk1.trans (hb2.mono hk1.size)
        have hx2 := hx1.grow hb2 hx1.lt
        have hy2 := hy1.grow hb2 hy1.lt
        have d0 := hx2.cell 0
        have d1 := hx2.cell 1
        have d2 := hy2.cell 0
        clear hb2 hx0 hy0 hB0 hx1 hy1 c0 c1
        go_wp2_with fail
        refine (HG.out _ (HPr.out.grow hk2 (Nat.le_refl _))).mono ?_
        rintro e w3 ⟨rfl, hb3⟩
        have hx3 := hx2.grow hb3 hx2.lt
        have hy3 := hy2.grow hb3 hy2.lt
        have e1 := hx3.cell 1
        have e2 := hy3.cell 1
        go_wp2_with fail
        go_ret
        exact ⟨ret_int HE.out.symm, hk2.trans (hb3.mono hk2.size)⟩
    · have HE : Hid (x = 6) := by show _ = _; rw [HX.out, if_neg fun h => hca h.1]
      have hne := bytes_ne hca
      clear HX hca
      go_enter Try.func26, Try.ntmps26
      go_wp2_with fail
      refine (HA.out _).mono ?_
      rintro e w1 ⟨rfl, hb1⟩
      have hk1 := hB0.trans (hb1.mono hB0.size)
      have hy1 := hy0.grow hb1 hy0.lt
      have hx1 := hx0.grow hb1 hx0.lt
      have c0 := hy1.cell 0
      have c1 := hy1.cell 1
      clear hb1
      go_wp2_with fail
      refine (HB.out _).mono ?_
      rintro e w2 ⟨rfl, hb2⟩
      have hk2 := hk1.trans (hb2.mono hk1.size)
      have hx2 := hx1.grow hb2 hx1.lt
      have hy2 := hy1.grow hb2 hy1.lt
      have d0 := hx2.cell 0
      have d1 := hx2.cell 1
      have d2 := hy2.cell 0
      clear hb2 hx0 hy0 hB0 hx1 hy1 c0 c1
      go_wp2_with fail
      refine (HG.out _ (HPr.out.grow hk2 (Nat.le_refl _))).mono ?_
      rintro e w3 ⟨rfl, hb3⟩
      have hx3 := hx2.grow hb3 hx2.lt
      have e1 := hx3.cell 1
      go_wp2_with fail
      go_ret
      exact ⟨ret_int HE.out.symm, hk2.trans (hb3.mono hk2.size)⟩

theorem text_any (os fs : Int) (a b : ByteArray) (p : Option Addr) (cap : Nat) (P : List ByteArray) (w : World) (ha : a.size ≤ maxLen) (hb : b.size ≤ maxLen) (hPr : Row w p P) (hcap : P.length ≤ cap) :
    Calls Try.prog 26 #[.agg #[.int .i64 os, .string a], .agg #[.int .i64 fs, .string b], .slice p P.length cap] w fun e w' => e = .returned (.int .i64 (extA os a fs b P)) ∧ Below w.heap.size w w' := by
  by_cases h : Pl.isSumB a = true ∧ Pl.isSumB b = true ∧ 1 ≤ os ∧ os ≤ fs ∧ fs ≤ 40
  · obtain ⟨h1, h2, h3, h4, h5⟩ := h
    obtain ⟨m, rfl⟩ : ∃ m : Nat, os = (m : Int) := ⟨os.toNat, by omega⟩
    obtain ⟨n, rfl⟩ : ∃ n : Nat, fs = (n : Int) := ⟨fs.toNat, by omega⟩
    refine text_fold m n a b p cap P w h1 h2 (by omega) (by omega) (by omega) hPr hcap _ _ rfl ?_
    have he : extA (m : Int) a (n : Int) b P = (match Pl.bothT a m n true P with | none => 6 | some (_, x, y) => if x = a ∧ y = b then 0 else 6) := by
      unfold extA
      rw [if_pos ⟨h1, h2, h3, h4, h5⟩, Int.toNat_natCast, Int.toNat_natCast]
      cases Pl.bothT a m n true P with
      | none => rfl
      | some x => rfl
    rw [he]
    unfold foldG
    cases Pl.bothT a m n true P with
    | none => exact Or.inl ⟨rfl, rfl⟩
    | some x =>
      obtain ⟨t, c, d⟩ := x
      exact Or.inr ⟨c, d, rfl, rfl⟩
  · have he : extA os a fs b P = 1 := if_neg h
    rw [he]
    exact text_arg os fs a b p P.length cap w ha hb h

end Go.Proofs.Ytnekilnfhkoogaa
