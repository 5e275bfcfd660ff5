import Derived.Test.YtkhnjipjbhcgdaaGreatTIncl
import Derived.Test.YtkhnjipjbhcgdaaGreatAns2
/-
  THE WALK of treehead.Included.
-/
namespace Go.Proofs.YtkhnjipjbhcgdaaGreat
open Go.RowKit Hp

theorem bytes_ne {a b : ByteArray} (h : ¬ a = b) : (a.toList == b.toList) = false := by
  rw [beq_eq_false_iff_ne]
  intro he
  apply h
  have h1 : a.data.toList = b.data.toList := by rwa [Go.ByteArray.toList_eq, Go.ByteArray.toList_eq] at he
  exact ByteArray.ext (Array.ext' h1)
theorem ansB_parts {size index : Int} {leaf : ByteArray} (h : Pl.ansB size index leaf = true) : 1 ≤ size ∧ size ≤ 40 ∧ 0 ≤ index ∧ index < size ∧ leaf.size ≤ 30 := by
  unfold Pl.ansB at h
  simp only [Bool.and_eq_true, decide_eq_true_iff] at h
  exact ⟨h.1.1.1.1, h.1.1.1.2, h.1.1.2, h.1.2, h.2⟩

set_option maxRecDepth 100000 in
set_option maxHeartbeats 1000000 in
theorem tincl_arg (r : ByteArray) (size index : Int) (leaf : ByteArray) (p : Option Addr) (n cap : Nat) (w : World) (hrs : r.size ≤ maxLen) (hl : leaf.size ≤ maxLen) (h : ¬ (Pl.isSumB r = true ∧ Pl.ansB size index leaf = true)) :
    Calls Tryz.prog 56 #[.string r, .agg #[.int .i64 size, .int .i64 index, .string leaf, .slice p n cap]] w fun e w' => e = .returned (.int .i64 1) ∧ Below w.heap.size w w' := by
  have HI : Hid _ := fun w => tis_any r w hrs
  have HM : Hid _ := fun w => tmayans_any size index leaf (.slice p n cap) w hl ⟨_, _, _, rfl⟩
  have hB0 : Below w.heap.size w (w.alloc (.cells #[.int .i64 size, .int .i64 index, .string leaf, .slice p n cap] 37)) := (Below.refl _ _).alloc (Nat.le_refl _) _
  cases h1 : Pl.isSumB r with
  | false =>
    rw [h1] at HI
    go_enter Tryz.func56, Tryz.ntmps56
    go_wp2_with fail
    refine (HI.out _).mono ?_
    rintro e w1 ⟨rfl, rfl⟩
    go_wp2_with fail
    go_ret
    exact ⟨rfl, hB0⟩
  | true =>
    have h2 : Pl.ansB size index leaf = false := by
      cases h2 : Pl.ansB size index leaf with
      | false => rfl
      | true => exact absurd ⟨h1, h2⟩ h
    rw [h1] at HI
    rw [h2] at HM
    clear h h1 h2
    go_enter Tryz.func56, Tryz.ntmps56
    go_wp2_with fail
    refine (HI.out _).mono ?_
    rintro e w1 ⟨rfl, rfl⟩
    go_wp2_with fail
    refine (HM.out _).mono ?_
    rintro e w2 ⟨rfl, hb2⟩
    go_wp2_with fail
    go_ret
    exact ⟨rfl, hB0.trans (hb2.mono (by simp))⟩

theorem FoldOut.other {B C R : Nat} {v : Value} {l : List Value} {t : List ByteArray} {w : World} (h : FoldOut B R v l t w) (hC : C < B) (o : Nat) (u : Value) : FoldOut B R v l t (w.setCell ⟨C, o, none⟩ u) := by
  have hle := h.le
  have hT : Turn (fun k => k = C) w (w.setCell ⟨C, o, none⟩ u) := (Turn.refl (fun k => k = C) w).setCell (fun _ => rfl) u
  refine ⟨h.le, h.roots.other (by omega) o u, h.own.turn hT ?_, h.size⟩
  rintro k hk rfl
  have := (h.own.lt _ hk).1
  omega

set_option maxRecDepth 100000 in
set_option maxHeartbeats 4000000 in
theorem tfoldans_no (size index : Nat) (leaf : ByteArray) (p : Option Addr) (cap : Nat) (P : List ByteArray) (w : World) (hl : leaf.size ≤ 30) (h1 : 1 ≤ size) (h40 : size ≤ 40) (hi : index < size) (hPr : Row w p P) (hT : Pl.leafT leaf index size P = none) :
    Calls Tryz.prog 70 #[.agg #[.int .i64 size, .int .i64 index, .string leaf, .slice p P.length cap]] w fun e w' => e = .returned (.tuple #[.agg #[.slice none 0 0, .slice none 0 0], .bool false]) ∧ Below w.heap.size w w' := by
  have hx0 : Box ((w.alloc (.cells #[.int .i64 size, .int .i64 index, .string leaf, .slice p P.length cap] 37)).alloc (.cells #[.slice none 0 0, .slice none 0 0] 104)) w.heap.size 37 [.int .i64 size, .int .i64 index, .string leaf, .slice p P.length cap] := (Box.new w 37 [.int .i64 size, .int .i64 index, .string leaf, .slice p P.length cap]).alloc _
  have hy0 : Box ((w.alloc (.cells #[.int .i64 size, .int .i64 index, .string leaf, .slice p P.length cap] 37)).alloc (.cells #[.slice none 0 0, .slice none 0 0] 104)) (w.heap.size + 1) 104 [.slice none 0 0, .slice none 0 0] := by
    have := Box.new (w.alloc (.cells #[.int .i64 size, .int .i64 index, .string leaf, .slice p P.length cap] 37)) 104 [.slice none 0 0, .slice none 0 0]
    rwa [show (w.alloc (.cells #[.int .i64 size, .int .i64 index, .string leaf, .slice p P.length cap] 37)).heap.size = w.heap.size + 1 by simp] at this
  have hk0 : Below w.heap.size w ((w.alloc (.cells #[.int .i64 size, .int .i64 index, .string leaf, .slice p P.length cap] 37)).alloc (.cells #[.slice none 0 0, .slice none 0 0] 104)) := ((Below.refl _ _).alloc (Nat.le_refl _) _).alloc (by simp) _
  have hP0 := hPr.grow hk0 (Nat.le_refl _)
  have hsz : w.heap.size + 2 ≤ ((w.alloc (.cells #[.int .i64 size, .int .i64 index, .string leaf, .slice p P.length cap] 37)).alloc (.cells #[.slice none 0 0, .slice none 0 0] 104)).heap.size := by simp
  have c0 := hx0.cell 0
  have c1 := hx0.cell 1
  have c2 := hx0.cell 2
  have c3 := hx0.cell 3
  have HF : Hid _ := tfoldleaf_no leaf index size P p cap _ hl h1 h40 hi hP0 hT
  clear hx0 hP0 hT
  go_enter Tryz.func70, Tryz.ntmps70
  go_wp2_with fail
  refine Calls.mono HF.out ?_
  rintro e w1 ⟨rfl, hb1⟩
  have hy1 := hy0.grow hb1 hy0.lt
  have hk1 := hk0.trans (hb1.mono hk0.size)
  have g0 := hy1.cell 0
  have g1 := hy1.cell 1
  have f0 := hy1.frozen 0
  have f1 := hy1.frozen 1
  have lR := hy1.lt
  clear hb1 HF
  go_wp2_with fail
  refine bodyPost_ret (v := .tuple #[.agg #[.slice none 0 0, .slice none 0 0], .bool false]) (by simp [results, Tryz.results70, go_sem, g0, g1]) rfl ⟨rfl, (hk1.setCell (by simp) _).setCell (by simp) _⟩

set_option maxRecDepth 100000 in
set_option maxHeartbeats 4000000 in
theorem tfoldans_yes (size index : Nat) (leaf : ByteArray) (p : Option Addr) (cap : Nat) (P : List ByteArray) (w : World) (hl : leaf.size ≤ 30) (h1 : 1 ≤ size) (h40 : size ≤ 40) (hi : index < size) (hPr : Row w p P) (t : List ByteArray) (x : ByteArray) (hT : Pl.leafT leaf index size P = some (t, x)) :
    Calls Tryz.prog 70 #[.agg #[.int .i64 size, .int .i64 index, .string leaf, .slice p P.length cap]] w fun e w' => ∃ R v, e = .returned (.tuple #[.agg #[.slice (some ⟨R, 0, none⟩) 1 1, v], .bool true]) ∧ FoldOut w.heap.size R v [.string x] t w' ∧ Below w.heap.size w w' := by
  have hx0 : Box ((w.alloc (.cells #[.int .i64 size, .int .i64 index, .string leaf, .slice p P.length cap] 37)).alloc (.cells #[.slice none 0 0, .slice none 0 0] 104)) w.heap.size 37 [.int .i64 size, .int .i64 index, .string leaf, .slice p P.length cap] := (Box.new w 37 [.int .i64 size, .int .i64 index, .string leaf, .slice p P.length cap]).alloc _
  have hy0 : Box ((w.alloc (.cells #[.int .i64 size, .int .i64 index, .string leaf, .slice p P.length cap] 37)).alloc (.cells #[.slice none 0 0, .slice none 0 0] 104)) (w.heap.size + 1) 104 [.slice none 0 0, .slice none 0 0] := by
    have := Box.new (w.alloc (.cells #[.int .i64 size, .int .i64 index, .string leaf, .slice p P.length cap] 37)) 104 [.slice none 0 0, .slice none 0 0]
    rwa [show (w.alloc (.cells #[.int .i64 size, .int .i64 index, .string leaf, .slice p P.length cap] 37)).heap.size = w.heap.size + 1 by simp] at this
  have hk0 : Below w.heap.size w ((w.alloc (.cells #[.int .i64 size, .int .i64 index, .string leaf, .slice p P.length cap] 37)).alloc (.cells #[.slice none 0 0, .slice none 0 0] 104)) := ((Below.refl _ _).alloc (Nat.le_refl _) _).alloc (by simp) _
  have hP0 := hPr.grow hk0 (Nat.le_refl _)
  have hsz : w.heap.size + 2 ≤ ((w.alloc (.cells #[.int .i64 size, .int .i64 index, .string leaf, .slice p P.length cap] 37)).alloc (.cells #[.slice none 0 0, .slice none 0 0] 104)).heap.size := by simp
  have c0 := hx0.cell 0
  have c1 := hx0.cell 1
  have c2 := hx0.cell 2
  have c3 := hx0.cell 3
  have HF : Hid _ := tfoldleaf_yes leaf index size P p cap _ hl h1 h40 hi hP0 t x hT
  clear hx0 hP0 hT
  go_enter Tryz.func70, Tryz.ntmps70
  go_wp2_with fail
  refine Calls.mono HF.out ?_
  rintro e w1 ⟨R, v, rfl, hfo, hb1⟩
  have hy1 := hy0.grow hb1 hy0.lt
  have hk1 := hk0.trans (hb1.mono hk0.size)
  have g0 := hy1.cell 0
  have g1 := hy1.cell 1
  have f0 := hy1.frozen 0
  have f1 := hy1.frozen 1
  have lR := hy1.lt
  have HFO : Hid _ := hfo
  obtain ⟨p6, c6, hv6⟩ := own_slice hfo.own
  subst hv6
  clear hb1 HF hfo
  go_wp2_with fail
  refine bodyPost_ret (v := .tuple #[.agg #[.slice (some ⟨R, 0, none⟩) 1 1, .slice p6 t.length c6], .bool true]) (by simp [results, Tryz.results70, go_sem, g0, g1]) rfl ⟨R, _, rfl, ?_, (hk1.setCell (by simp) _).setCell (by simp) _⟩
  exact ((HFO.out.other (by omega) _ _).other (by omega) _ _).weak (by omega)

set_option maxRecDepth 100000 in
set_option maxHeartbeats 4000000 in
theorem tincl_fold (r : ByteArray) (size index : Nat) (leaf : ByteArray) (p : Option Addr) (cap : Nat) (P : List ByteArray) (w : World) (h1 : Pl.isSumB r = true) (h2 : Pl.ansB size index leaf = true) (hPr : Row w p P) :
    Calls Tryz.prog 56 #[.string r, .agg #[.int .i64 size, .int .i64 index, .string leaf, .slice p P.length cap]] w fun e w' => e = .returned (.int .i64 (match Pl.leafT leaf index size P with | none => 6 | some (_, x) => if x = r then 0 else 6)) ∧ Below w.heap.size w w' := by
  obtain ⟨a1, a2, _, a4, a5⟩ := ansB_parts h2
  have hr4 := isSumB_size h1
  have hl : leaf.size ≤ maxLen := Nat.le_trans a5 (by decide)
  have HI : Hid _ := fun w => tis_any r w (by rw [hr4]; decide)
  have HM : Hid _ := fun w => tmayans_any size index leaf (.slice p P.length cap) w hl ⟨_, _, _, rfl⟩
  have HFn : Hid _ := fun hT w (h : Row w p P) => tfoldans_no size index leaf p cap P w a5 (by omega) (by omega) (by omega) h hT
  have HFy : Hid _ := fun t x hT w (h : Row w p P) => tfoldans_yes size index leaf p cap P w a5 (by omega) (by omega) (by omega) h t x hT
  rw [h1] at HI
  rw [h2] at HM
  have HPr : Hid _ := hPr
  have hB0 : Below w.heap.size w (w.alloc (.cells #[.int .i64 size, .int .i64 index, .string leaf, .slice p P.length cap] 37)) := (Below.refl _ _).alloc (Nat.le_refl _) _
  have hx0 := Box.new w 37 [.int .i64 size, .int .i64 index, .string leaf, .slice p P.length cap]
  clear hPr a1 a2 a4 a5 h1 h2 hl
  cases hT : Pl.leafT leaf index size P with
  | none =>
    have HF : Hid _ := HFn.out hT
    clear hT HFn HFy
    go_enter Tryz.func56, Tryz.ntmps56
    go_wp2_with fail
    refine (HI.out _).mono ?_
    rintro e w1 ⟨rfl, rfl⟩
    go_wp2_with fail
    refine (HM.out _).mono ?_
    rintro e w2 ⟨rfl, hb2⟩
    have hk2 := hB0.trans (hb2.mono (by simp))
    have hx2 := hx0.grow hb2 (by simp)
    have c0 := hx2.cell 0
    have c1 := hx2.cell 1
    have c2 := hx2.cell 2
    have c3 := hx2.cell 3
    clear hb2 hx0 hB0 hx2
    go_wp2_with fail
    refine (HF.out _ (HPr.out.grow hk2 (Nat.le_refl _))).mono ?_
    rintro e w3 ⟨rfl, hb3⟩
    have hk3 := hk2.trans (hb3.mono hk2.size)
    clear HF HI HM HPr hb3
    go_wp2_with fail
    go_ret
    exact ⟨rfl, hk3.alloc hk3.size _⟩
  | some x =>
    obtain ⟨t, y⟩ := x
    have HF : Hid _ := HFy.out t y hT
    clear hT HFn HFy
    by_cases hy : y = r
    · have HE : Hid ((if y = r then (0 : Int) else 6) = 0) := if_pos hy
      subst hy
      go_enter Tryz.func56, Tryz.ntmps56
      go_wp2_with fail
      refine (HI.out _).mono ?_
      rintro e w1 ⟨rfl, rfl⟩
      go_wp2_with fail
      refine (HM.out _).mono ?_
      rintro e w2 ⟨rfl, hb2⟩
      have hk2 := hB0.trans (hb2.mono (by simp))
      have hx2 := hx0.grow hb2 (by simp)
      have c0 := hx2.cell 0
      have c1 := hx2.cell 1
      have c2 := hx2.cell 2
      have c3 := hx2.cell 3
      clear hb2 hx0 hB0 hx2
      go_wp2_with fail
      refine (HF.out _ (HPr.out.grow hk2 (Nat.le_refl _))).mono ?_
      rintro e w3 ⟨R, v, rfl, hfo, hb3⟩
      have hk3 := hk2.trans (hb3.mono hk2.size)
      have hr3 := hfo.roots.alloc (.cells #[.slice (some ⟨R, 0, none⟩) 1 1, v] 104)
      obtain ⟨p6, c6, hv6⟩ := own_slice hfo.own
      subst hv6
      have d0 := hr3.cell 0
      have lR := hfo.roots.lt
      clear HF HI HM HPr hb3 hfo hr3
      go_wp2_with fail
      go_ret
      first | exact ⟨ret_int HE.out.symm, hk3.alloc hk3.size _⟩ | exact ⟨rfl, hk3.alloc hk3.size _⟩
    · have HE : Hid ((if y = r then (0 : Int) else 6) = 6) := if_neg hy
      have hne := bytes_ne hy
      go_enter Tryz.func56, Tryz.ntmps56
      go_wp2_with fail
      refine (HI.out _).mono ?_
      rintro e w1 ⟨rfl, rfl⟩
      go_wp2_with fail
      refine (HM.out _).mono ?_
      rintro e w2 ⟨rfl, hb2⟩
      have hk2 := hB0.trans (hb2.mono (by simp))
      have hx2 := hx0.grow hb2 (by simp)
      have c0 := hx2.cell 0
      have c1 := hx2.cell 1
      have c2 := hx2.cell 2
      have c3 := hx2.cell 3
      clear hb2 hx0 hB0 hx2
      go_wp2_with fail
      refine (HF.out _ (HPr.out.grow hk2 (Nat.le_refl _))).mono ?_
      rintro e w3 ⟨R, v, rfl, hfo, hb3⟩
      have hk3 := hk2.trans (hb3.mono hk2.size)
      have hr3 := hfo.roots.alloc (.cells #[.slice (some ⟨R, 0, none⟩) 1 1, v] 104)
      obtain ⟨p6, c6, hv6⟩ := own_slice hfo.own
      subst hv6
      have d0 := hr3.cell 0
      have lR := hfo.roots.lt
      clear HF HI HM HPr hb3 hfo hr3
      go_wp2_with fail
      go_ret
      first | exact ⟨ret_int HE.out.symm, hk3.alloc hk3.size _⟩ | exact ⟨rfl, hk3.alloc hk3.size _⟩

theorem tincl_any (r : ByteArray) (size index : Int) (leaf : ByteArray) (p : Option Addr) (cap : Nat) (P : List ByteArray) (w : World) (hrs : r.size ≤ maxLen) (hl : leaf.size ≤ maxLen) (hPr : Row w p P) :
    Calls Tryz.prog 56 #[.string r, .agg #[.int .i64 size, .int .i64 index, .string leaf, .slice p P.length cap]] w fun e w' => e = .returned (.int .i64 (inclA r size index leaf P)) ∧ Below w.heap.size w w' := by
  by_cases h : Pl.isSumB r = true ∧ Pl.ansB size index leaf = true
  · obtain ⟨a1, a2, a3, a4, a5⟩ := ansB_parts h.2
    obtain ⟨n, rfl⟩ : ∃ n : Nat, size = (n : Int) := ⟨size.toNat, by omega⟩
    obtain ⟨i, rfl⟩ : ∃ i : Nat, index = (i : Int) := ⟨index.toNat, by omega⟩
    have he : inclA r n i leaf P = (match Pl.leafT leaf i n P with | none => 6 | some (_, x) => if x = r then 0 else 6) := by
      unfold inclA
      rw [if_pos h, Int.toNat_natCast, Int.toNat_natCast]
      cases Pl.leafT leaf i n P with
      | none => rfl
      | some x => rfl
    rw [he]
    exact tincl_fold r n i leaf p cap P w h.1 h.2 hPr
  · have he : inclA r size index leaf P = 1 := if_neg h
    rw [he]
    exact tincl_arg r size index leaf p P.length cap w hrs hl h

end Go.Proofs.YtkhnjipjbhcgdaaGreat
