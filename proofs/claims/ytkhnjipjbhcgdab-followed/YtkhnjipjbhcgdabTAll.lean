import Derived.Test.YtkhnjipjbhcgdabTExt2
import Derived.Test.YtkhnjipjbhcgdabTConcat
import Derived.Test.YtkhnjipjbhcgdabTSums
import Derived.Deep.DeepCutAuto
import Derived.BigRegion
/-
  THE WALKS of treehead.foldAll.
-/
namespace Go.Proofs.Ytkhnjipjbhcgdab
open Go.RowKit Hp

theorem Box.new2 (w : World) (o : Obj) (t : TypeId) (l : List Value) : Box ((w.alloc o).alloc (.cells l.toArray t)) (w.heap.size + 1) t l := by
  have h := Box.new (w.alloc o) t l
  rwa [show (w.alloc o).heap.size = w.heap.size + 1 by simp] at h
def sel3 {α : Type} (a b c : α) : Nat → α
  | 0 => a
  | 1 => b
  | _ => c
def cum3 (a b c : List ByteArray) : Nat → List ByteArray
  | 0 => []
  | 1 => a
  | 2 => a ++ b
  | _ => a ++ b ++ c
theorem tconcat3 (v1 v2 v3 : Value) (t1 t2 t3 : List ByteArray) (W : World) (h1 : Src W v1 t1) (h2 : Src W v2 t2) (h3 : Src W v3 t3) (hl : t1.length + t2.length + t3.length ≤ 4000) (hne : 1 ≤ t1.length) :
    Calls Try.prog 65 #[.slice (some ⟨W.heap.size, 0, none⟩) 3 3] (W.alloc (.cells #[v1, v2, v3] 39)) fun e w' => ∃ v, e = .returned v ∧ Own w' W.heap.size v (t1 ++ t2 ++ t3) ∧ Below W.heap.size W w' := by
  have hb : Below W.heap.size W (W.alloc (.cells #[v1, v2, v3] 39)) := (Below.refl _ _).alloc (Nat.le_refl _) _
  have hbox := Box.new W 39 [v1, v2, v3]
  have h := tconcat_any W.heap.size (sel3 v1 v2 v3) (sel3 t1 t2 t3) (cum3 t1 t2 t3) (W.alloc (.cells #[v1, v2, v3] 39)) (by simp) (by
    intro k hk
    have := hbox.cell k
    match k, hk with
    | 0, _ => exact this
    | 1, _ => exact this
    | 2, _ => exact this) (by
    intro k hk
    match k, hk with
    | 0, _ => exact h1.grow hb
    | 1, _ => exact h2.grow hb
    | 2, _ => exact h3.grow hb) rfl (by
    intro k hk
    match k, hk with
    | 0, _ => exact (List.nil_append _).symm
    | 1, _ => rfl
    | 2, _ => rfl) (by
    intro k hk
    match k, hk with
    | 0, _ => simp [cum3]
    | 1, _ => simp only [cum3]; omega
    | 2, _ => simp only [cum3, List.length_append]; omega
    | 3, _ => simp only [cum3, List.length_append]; omega) (by simp only [cum3, List.length_append]; omega)
  refine h.mono fun e w' ⟨v, he, ho, hb2⟩ => ⟨v, he, ho.weak (by simp), hb.trans (hb2.mono (by simp))⟩

set_option maxRecDepth 100000 in
set_option maxHeartbeats 4000000 in
theorem tfoldall_no (n1 n2 i : Nat) (l1 : ByteArray) (p1 : Option Addr) (q1 : List ByteArray) (c1 : Nat) (l2 : ByteArray) (p2 : Option Addr) (q2 : List ByteArray) (c2 : Nat) (p3 : Option Addr) (q3 : List ByteArray) (c3 : Nat) (w : World) (hr1 : Row w p1 q1) (hr2 : Row w p2 q2) (k1 k2 : Bool) (hk : (k1 && k2) = false)
    (HA : Hid (∀ w, Row w p1 q1 → Calls Try.prog 47 #[.agg #[.int .i64 n1, .int .i64 i, .string l1, .slice p1 q1.length c1]] w fun e w' => ∃ u1 u2 u3 v1 v2 v3, e = .returned (.tuple #[.agg #[.slice u1 u2 u3, .slice v1 v2 v3], .bool k1]) ∧ Below w.heap.size w w'))
    (HB : Hid (∀ w, Row w p2 q2 → Calls Try.prog 47 #[.agg #[.int .i64 n2, .int .i64 i, .string l2, .slice p2 q2.length c2]] w fun e w' => ∃ u1 u2 u3 v1 v2 v3, e = .returned (.tuple #[.agg #[.slice u1 u2 u3, .slice v1 v2 v3], .bool k2]) ∧ Below w.heap.size w w')) :
    Calls Try.prog 49 #[.agg #[.int .i64 n1, .int .i64 i, .string l1, .slice p1 q1.length c1], .agg #[.int .i64 n2, .int .i64 i, .string l2, .slice p2 q2.length c2], .slice p3 q3.length c3] w fun e w' => e = .returned (.tuple #[.slice none 0 0, .bool false]) ∧ Below w.heap.size w w' := by
  have hx0 : Box ((w.alloc (.cells #[.int .i64 n1, .int .i64 i, .string l1, .slice p1 q1.length c1] 53)).alloc (.cells #[.int .i64 n2, .int .i64 i, .string l2, .slice p2 q2.length c2] 53)) w.heap.size 53 [.int .i64 n1, .int .i64 i, .string l1, .slice p1 q1.length c1] := (Box.new w 53 [.int .i64 n1, .int .i64 i, .string l1, .slice p1 q1.length c1]).alloc _
  have hy0 : Box ((w.alloc (.cells #[.int .i64 n1, .int .i64 i, .string l1, .slice p1 q1.length c1] 53)).alloc (.cells #[.int .i64 n2, .int .i64 i, .string l2, .slice p2 q2.length c2] 53)) (w.heap.size + 1) 53 [.int .i64 n2, .int .i64 i, .string l2, .slice p2 q2.length c2] := by
    have h := Box.new (w.alloc (.cells #[.int .i64 n1, .int .i64 i, .string l1, .slice p1 q1.length c1] 53)) 53 [.int .i64 n2, .int .i64 i, .string l2, .slice p2 q2.length c2]
    rwa [show (w.alloc (.cells #[.int .i64 n1, .int .i64 i, .string l1, .slice p1 q1.length c1] 53)).heap.size = w.heap.size + 1 by simp] at h
  have hk0 : Below w.heap.size w ((w.alloc (.cells #[.int .i64 n1, .int .i64 i, .string l1, .slice p1 q1.length c1] 53)).alloc (.cells #[.int .i64 n2, .int .i64 i, .string l2, .slice p2 q2.length c2] 53)) := ((Below.refl _ _).alloc (Nat.le_refl _) _).alloc (by simp) _
  have c0 := hx0.cell 0
  have c1 := hx0.cell 1
  have c2 := hx0.cell 2
  have c3 := hx0.cell 3
  have HR1 : Hid _ := hr1
  have HR2 : Hid _ := hr2
  clear hx0 hr1 hr2
  go_enter Try.func49, Try.ntmps49
  go_wp2_with fail
  refine (HA.out _ (HR1.out.grow hk0 (Nat.le_refl _))).mono ?_
  rintro e w1 ⟨u1, u2, u3, v1, v2, v3, rfl, hb1⟩
  have hy1 := (hy0.grow hb1 hy0.lt).alloc (.cells #[.slice u1 u2 u3, .slice v1 v2 v3] 84)
  have hk1 := hk0.trans (hb1.mono hk0.size)
  have hk2 := hk1.alloc hk1.size (.cells #[.slice u1 u2 u3, .slice v1 v2 v3] 84)
  have d0 := hy1.cell 0
  have d1 := hy1.cell 1
  have d2 := hy1.cell 2
  have d3 := hy1.cell 3
  clear hb1 hy0 hy1 c0 c1 c2 c3
  go_wp2_with fail
  refine (HB.out _ (HR2.out.grow hk2 (Nat.le_refl _))).mono ?_
  rintro e w2 ⟨x1, x2, x3, y1, y2, y3, rfl, hb2⟩
  have hk3 := hk2.trans (hb2.mono hk2.size)
  have hk4 := hk3.alloc hk3.size (.cells #[.slice x1 x2 x3, .slice y1 y2 y3] 84)
  clear hb2 d0 d1 d2 d3 HA HB HR1 HR2 hk1 hk2
  cases k1 with
  | false =>
    go_wp2_with fail
    refine bodyPost_ret (v := .tuple #[.slice none 0 0, .bool false]) (by simp [results, Try.results49, go_sem]) rfl ⟨rfl, hk4⟩
  | true =>
    cases k2 with
    | true => cases hk
    | false =>
      go_wp2_with fail
      refine bodyPost_ret (v := .tuple #[.slice none 0 0, .bool false]) (by simp [results, Try.results49, go_sem]) rfl ⟨rfl, hk4⟩

set_option maxRecDepth 100000 in
set_option maxHeartbeats 4000000 in
theorem tfoldall_both (n1 n2 i : Nat) (l1 : ByteArray) (p1 : Option Addr) (q1 : List ByteArray) (c1 : Nat) (l2 : ByteArray) (p2 : Option Addr) (q2 : List ByteArray) (c2 : Nat) (p3 : Option Addr) (q3 : List ByteArray) (c3 : Nat) (w : World) (hr1 : Row w p1 q1) (hr2 : Row w p2 q2) (hr3 : Row w p3 q3) (t1 t2 t3 : List ByteArray) (x y : ByteArray) (k : Bool) (hl : t1.length + t2.length + t3.length ≤ 4000) (hne : 1 ≤ t1.length)
    (HA : Hid (∀ w, Row w p1 q1 → Calls Try.prog 47 #[.agg #[.int .i64 n1, .int .i64 i, .string l1, .slice p1 q1.length c1]] w fun e w' => ∃ R v, e = .returned (.tuple #[.agg #[.slice (some ⟨R, 0, none⟩) 1 1, v], .bool true]) ∧ FoldOut w.heap.size R v [.string x] t1 w' ∧ Below w.heap.size w w'))
    (HB : Hid (∀ w, Row w p2 q2 → Calls Try.prog 47 #[.agg #[.int .i64 n2, .int .i64 i, .string l2, .slice p2 q2.length c2]] w fun e w' => ∃ R v, e = .returned (.tuple #[.agg #[.slice (some ⟨R, 0, none⟩) 1 1, v], .bool true]) ∧ FoldOut w.heap.size R v [.string y] t2 w' ∧ Below w.heap.size w w'))
    (HG : Hid (∀ w, Row w p3 q3 → Calls Try.prog 48 #[.agg #[.int .i64 n1, .string x], .agg #[.int .i64 n2, .string y], .slice p3 q3.length c3] w fun e w' => ∃ u1 u2 u3 v, e = .returned (.tuple #[.agg #[.slice u1 u2 u3, v], .bool k]) ∧ Own w' w.heap.size v t3 ∧ (∀ s ∈ t3, s.size ≤ 64) ∧ Below w.heap.size w w')) :
    Calls Try.prog 49 #[.agg #[.int .i64 n1, .int .i64 i, .string l1, .slice p1 q1.length c1], .agg #[.int .i64 n2, .int .i64 i, .string l2, .slice p2 q2.length c2], .slice p3 q3.length c3] w fun e w' => ∃ v, e = .returned (.tuple #[v, .bool k]) ∧ Own w' w.heap.size v (t1 ++ t2 ++ t3) ∧ (∀ s ∈ t1 ++ t2 ++ t3, s.size ≤ 64) ∧ Below w.heap.size w w' := by
  have hx0 : Box ((w.alloc (.cells #[.int .i64 n1, .int .i64 i, .string l1, .slice p1 q1.length c1] 53)).alloc (.cells #[.int .i64 n2, .int .i64 i, .string l2, .slice p2 q2.length c2] 53)) w.heap.size 53 [.int .i64 n1, .int .i64 i, .string l1, .slice p1 q1.length c1] := (Box.new w 53 [.int .i64 n1, .int .i64 i, .string l1, .slice p1 q1.length c1]).alloc _
  have hy0 : Box ((w.alloc (.cells #[.int .i64 n1, .int .i64 i, .string l1, .slice p1 q1.length c1] 53)).alloc (.cells #[.int .i64 n2, .int .i64 i, .string l2, .slice p2 q2.length c2] 53)) (w.heap.size + 1) 53 [.int .i64 n2, .int .i64 i, .string l2, .slice p2 q2.length c2] := by
    have h := Box.new (w.alloc (.cells #[.int .i64 n1, .int .i64 i, .string l1, .slice p1 q1.length c1] 53)) 53 [.int .i64 n2, .int .i64 i, .string l2, .slice p2 q2.length c2]
    rwa [show (w.alloc (.cells #[.int .i64 n1, .int .i64 i, .string l1, .slice p1 q1.length c1] 53)).heap.size = w.heap.size + 1 by simp] at h
  have hk0 : Below w.heap.size w ((w.alloc (.cells #[.int .i64 n1, .int .i64 i, .string l1, .slice p1 q1.length c1] 53)).alloc (.cells #[.int .i64 n2, .int .i64 i, .string l2, .slice p2 q2.length c2] 53)) := ((Below.refl _ _).alloc (Nat.le_refl _) _).alloc (by simp) _
  have c0 := hx0.cell 0
  have c1 := hx0.cell 1
  have c2 := hx0.cell 2
  have c3 := hx0.cell 3
  have HR1 : Hid _ := hr1
  have HR2 : Hid _ := hr2
  have HR3 : Hid _ := hr3
  clear hr1 hr2 hr3
  go_enter Try.func49, Try.ntmps49
  go_wp2_with fail
  refine (HA.out _ (HR1.out.grow hk0 (Nat.le_refl _))).mono ?_
  rintro e w1 ⟨R1, v1, rfl, hfo1, hb1⟩
  obtain ⟨s1, d1, hv1⟩ := own_slice hfo1.own
  subst hv1
  have hx1 := (hx0.grow hb1 hx0.lt).alloc (.cells #[.slice (some ⟨R1, 0, none⟩) 1 1, .slice s1 t1.length d1] 84)
  have hy1 := (hy0.grow hb1 hy0.lt).alloc (.cells #[.slice (some ⟨R1, 0, none⟩) 1 1, .slice s1 t1.length d1] 84)
  have hF1 := Box.new w1 84 [.slice (some ⟨R1, 0, none⟩) 1 1, .slice s1 t1.length d1]
  have hf1 := hfo1.grow ((Below.refl _ _).alloc (Nat.le_refl _) (.cells #[.slice (some ⟨R1, 0, none⟩) 1 1, .slice s1 t1.length d1] 84))
  have hk1 := hk0.trans (hb1.mono hk0.size)
  have hk2 := hk1.alloc hk1.size (.cells #[.slice (some ⟨R1, 0, none⟩) 1 1, .slice s1 t1.length d1] 84)
  clear hb1 hy0 hx0 c0 c1 c2 c3 hfo1 hk1 HA
  have e0 := hy1.cell 0
  have e1 := hy1.cell 1
  have e2 := hy1.cell 2
  have e3 := hy1.cell 3
  go_wp2_with fail
  refine (HB.out _ (HR2.out.grow hk2 (Nat.le_refl _))).mono ?_
  generalize w1.heap.size = F1 at *
  generalize w1.alloc (.cells #[.slice (some ⟨R1, 0, none⟩) 1 1, .slice s1 t1.length d1] 84) = W1 at *
  rintro e w2 ⟨R2, v2, rfl, hfo2, hb2⟩
  obtain ⟨s2, d2, hv2⟩ := own_slice hfo2.own
  subst hv2
  have hbn : Below w2.heap.size w2 (w2.alloc (.cells #[.slice (some ⟨R2, 0, none⟩) 1 1, .slice s2 t2.length d2] 84)) := (Below.refl _ _).alloc (Nat.le_refl _) _
  have hb3 : Below W1.heap.size W1 (w2.alloc (.cells #[.slice (some ⟨R2, 0, none⟩) 1 1, .slice s2 t2.length d2] 84)) := hb2.trans (hbn.mono hb2.size)
  have hx3 := hx1.grow hb3 hx1.lt
  have hy3 := hy1.grow hb3 hy1.lt
  have hF13 := hF1.grow hb3 hF1.lt
  have hf13 := hf1.grow hb3
  have hF2 := Box.new w2 84 [.slice (some ⟨R2, 0, none⟩) 1 1, .slice s2 t2.length d2]
  have hf2 := hfo2.grow hbn
  have hk3 := hk2.trans (hb3.mono hk2.size)
  have g0 := hx3.cell 0
  have g1 := hy3.cell 0
  have g2 := hF13.cell 0
  have g3 := hF2.cell 0
  have g4 := hf13.roots.cell 0
  have g5 := hf2.roots.cell 0
  have m0 := hx3.lt
  have m1 := hy3.lt
  have m2 := hF13.lt
  have m3 := hF2.lt
  have m4 := hf13.roots.lt
  have m5 := hf2.roots.lt
  clear hb2 hb3 hbn hx1 hy1 hF1 hf1 hfo2 hk2 e0 e1 e2 e3 HB HR1 HR2
  go_upto_region 5 with fail
  generalize w2.heap.size = F2 at *
  generalize w2.alloc (.cells #[.slice (some ⟨R2, 0, none⟩) 1 1, .slice s2 t2.length d2] 84) = W2 at *
  go_cut [12, 13] (fun s12 s13 wx => ∃ H1 H2, s12 = .pointer (some ⟨H1, 0, none⟩) ∧ s13 = .pointer (some ⟨H2, 0, none⟩) ∧ Box wx H1 27 [.int .i64 n1, .string x] ∧ Box wx H2 27 [.int .i64 n2, .string y] ∧ Below W2.heap.size W2 wx)
  case first =>
    go_region_held3 (fun w' => w'.cell? ⟨w.heap.size, 0, none⟩ = some (.int .i64 n1) ∧ w'.cell? ⟨w.heap.size + 1, 0, none⟩ = some (.int .i64 n2) ∧ w'.cell? ⟨F1, 0, none⟩ = some (.slice (some ⟨R1, 0, none⟩) 1 1) ∧ w'.cell? ⟨F2, 0, none⟩ = some (.slice (some ⟨R2, 0, none⟩) 1 1) ∧ w'.cell? ⟨R1, 0, none⟩ = some (.string x) ∧ w'.cell? ⟨R2, 0, none⟩ = some (.string y)) (go_keep) (fail)
    all_goals
      go_wp2_with fail
      go_meet
      first
        | exact ⟨_, _, rfl, rfl, ((Box.new W2 27 [.int .i64 n1, .string x]).alloc _).drew, (Box.new2 W2 _ 27 [.int .i64 n2, .string y]).drew, (((Below.refl _ _).alloc (Nat.le_refl _) _).alloc (by simp) _).drew⟩
        | exact ⟨_, _, rfl, rfl, (Box.new2 W2 _ 27 [.int .i64 n1, .string x]).drew, ((Box.new W2 27 [.int .i64 n2, .string y]).alloc _).drew, (((Below.refl _ _).alloc (Nat.le_refl _) _).alloc (by simp) _).drew⟩
  case rest =>
    obtain ⟨H1, H2, rfl, rfl, hH1, hH2, hb4⟩ := hcut
    have hk4 := hk3.trans (hb4.mono hk3.size)
    have hF14 := hF13.grow hb4 hF13.lt
    have hF24 := hF2.grow hb4 hF2.lt
    have hf14 := hf13.grow hb4
    have hf24 := hf2.grow hb4
    clear g0 g1 g2 g3 g4 g5 m0 m1 m2 m3 m4 m5 hx3 hy3 hF13 hF2 hf13 hf2 hk3 hb4
    have c0 := hH1.cell 0
    have c1 := hH1.cell 1
    have c2 := hH2.cell 0
    have c3 := hH2.cell 1
    go_wp2_with fail
    refine (HG.out _ (HR3.out.grow hk4 (Nat.le_refl _))).mono ?_
    rintro e w5 ⟨u1, u2, u3, v3, rfl, ho5, hz5, hb5⟩
    obtain ⟨s3, d3, hv3⟩ := own_slice ho5
    subst hv3
    have hbn : Below w5.heap.size w5 (w5.alloc (.cells #[.slice u1 u2 u3, .slice s3 t3.length d3] 84)) := (Below.refl _ _).alloc (Nat.le_refl _) _
    have hb6 : Below wc.heap.size wc (w5.alloc (.cells #[.slice u1 u2 u3, .slice s3 t3.length d3] 84)) := hb5.trans (hbn.mono hb5.size)
    have hF15 := hF14.grow hb6 hF14.lt
    have hF25 := hF24.grow hb6 hF24.lt
    have hf15 := hf14.grow hb6
    have hf25 := hf24.grow hb6
    have ho6 := ho5.grow hbn
    have hk6 := hk4.trans (hb6.mono hk4.size)
    have HZ : Hid (∀ s ∈ t1 ++ t2 ++ t3, s.size ≤ 64) := by
      intro s hs
      rw [List.mem_append, List.mem_append] at hs
      rcases hs with (hs | hs) | hs
      · exact hf15.size s hs
      · exact hf25.size s hs
      · exact hz5 s hs
    have hs64 : ∀ (t : List ByteArray), (∀ s ∈ t, s.size ≤ 64) → ∀ s ∈ t, s.size ≤ maxLen := fun t h s hs => Nat.le_trans (h s hs) (by decide)
    have hC := tconcat3 _ _ _ t1 t2 t3 _ (hf15.own.src (hs64 _ hf15.size) (by unfold maxLen; omega)) (hf25.own.src (hs64 _ hf25.size) (by unfold maxLen; omega)) (ho6.src (hs64 _ hz5) (by unfold maxLen; omega)) hl hne
    have hszn : (w5.alloc (.cells #[.slice u1 u2 u3, .slice s3 t3.length d3] 84)).heap.size = w5.heap.size + 1 := by simp
    have hle : w.heap.size ≤ w5.heap.size + 1 := by have := hk6.size; omega
    rw [hszn] at hC
    have HC : Hid _ := hC
    have e0 := hF15.cell 1
    have e1 := hF25.cell 1
    clear hC hszn hbn hb5 hb6 hF14 hF24 hf14 hf24 ho5 hz5 hH1 hH2 hF15 hF25 hf15 hf25 ho6 hk4 c0 c1 c2 c3 hs64
    go_wp2_with fail
    refine Calls.mono HC.out ?_
    rintro e w7 ⟨v7, rfl, ho7, hb7⟩
    have hk7 := hk6.trans (hb7.mono hle)
    obtain ⟨s7, d7, hv7⟩ := own_slice ho7
    subst hv7
    have HO7 : Hid _ := ho7.weak hle
    clear ho7 hb7 hk6 HC e0 e1
    go_wp2_with fail
    refine bodyPost_ret (v := .tuple #[.slice s7 (t1 ++ t2 ++ t3).length d7, .bool k]) (by simp [results, Try.results49, go_sem]) rfl ⟨_, rfl, HO7.out, HZ.out, hk7⟩

end Go.Proofs.Ytkhnjipjbhcgdab
