/-
  A ROW OF THE CALL's OWN with one text set; THE WALK of treeheadkeep.Failed.
-/
import Derived.Test.YtkhnjipjbhcgdabSound
import Derived.Test.YtkhnjipjbhcgdabShown
namespace Go.Proofs.Ytkhnjipjbhcgdab
open Go.RowKit Hp

theorem Own.cells {w : World} {B g n cap : Nat} {ss : List ByteArray} (h : Own w B (.slice (some ⟨g, 0, none⟩) n cap) ss) (i : Nat) (hi : i < ss.length) : w.cell? ⟨g, i, none⟩ = some (.string ss[i]) ∧ w.frozen? ⟨g, i, none⟩ = false := by
  constructor
  · have := World.ownsRow.cells h (g := g) rfl i (.string ss[i]) (by simp [hi])
    rwa [add_plain, Nat.zero_add] at this
  · rcases h.2 with ⟨h0, _⟩ | ⟨g', cap', cur, hv, _, hg, _⟩
    · cases h0
    · injection hv with e1 e2 e3
      simp only [Option.some.injEq, Addr.mk.injEq, and_true] at e1
      subst e1
      simp [World.frozen?, hg]
theorem Own.set {w : World} {B g n cap : Nat} {ss : List ByteArray} (h : Own w B (.slice (some ⟨g, 0, none⟩) n cap) ss) (i : Nat) (x : ByteArray) : Own (w.setCell ⟨g, i, none⟩ (.string x)) B (.slice (some ⟨g, 0, none⟩) n cap) (ss.set i x) := by
  rcases h.2 with ⟨h0, _⟩ | ⟨g', cap', cur, hv, hb, hg, hc, hm, hz, ht⟩
  · cases h0
  · injection hv with e1 e2 e3
    simp only [Option.some.injEq, Addr.mk.injEq, and_true] at e1
    subst e1 e2 e3
    have hbox : Box w g 9 cur.toList := by unfold Box; rw [hg]
    have h2 := hbox.set i (.string x)
    unfold Box at h2
    refine ⟨by simp, Or.inr ⟨g, cap, (cur.toList.set i (.string x)).toArray, by rw [List.length_set], hb, h2, by rw [List.length_set]; exact hc, hm, by simpa using hz, ?_⟩⟩
    rw [List.length_set, List.map_set, ← ht]
    simp [List.take_set]
theorem Own.rowAt {w : World} {B g n cap : Nat} {ss : List ByteArray} (h : Own w B (.slice (some ⟨g, 0, none⟩) n cap) ss) (hs : ∀ s ∈ ss, s.size ≤ maxLen) (hl : ss.length ≤ maxLen) : Row w (some ⟨g, 0, none⟩) ss :=
  ⟨hl, hs, Or.inr ⟨g, 0, rfl, (h.lt g rfl).2, fun i hi => by rw [Nat.zero_add]; exact (h.cells i hi).1⟩⟩
/-- A text cut to fourteen bytes. -/
def cut14 (s : ByteArray) : ByteArray := if 14 < s.size then s.extract 0 14 else s
theorem cut14_size (s : ByteArray) : (cut14 s).size ≤ 14 := by
  unfold cut14
  split
  · rw [ByteArray.size_extract]; omega
  · omega
theorem three_size (a b : ByteArray) (x y : UInt8) (ha : a.size ≤ 14) (hb : b.size ≤ 14) : (a ++ ⟨#[x, y]⟩ ++ b).size ≤ 30 := by
  rw [ByteArray.size_append, ByteArray.size_append]
  show a.size + 2 + b.size ≤ 30
  omega
end Go.Proofs.Ytkhnjipjbhcgdab

namespace Go.Proofs.Ytkhnjipjbhcgdab
open Go.RowKit Hp

set_option maxRecDepth 100000 in
set_option maxHeartbeats 8000000 in
theorem failed_row (p : Option Addr) (cap : Nat) (ss : List ByteArray) (c1 c2 : Int) (ahead behind : ByteArray) (w : World) (hr : Row w p ss) (hc1 : Fits c1) (hc2 : Fits c2) (hah : ahead.size ≤ maxLen) (hbe : behind.size ≤ maxLen) :
    Calls Try.prog 6 #[.slice p ss.length cap, .int .i64 c1, .int .i64 c2, .string ahead, .string behind] w fun e w' => e = .returned (.bool true) ∧ Below w.heap.size w w' := by
  obtain ⟨i0, hinf, hz0, hz1, hz2⟩ := info_parts infoStr
  have HR : Hid _ := hr
  clear hr
  unfold maxLen at hah hbe
  go_enter Try.func6, Try.ntmps6
  go_wp2_with fail
  refine (leaves_any p cap ss 38 w HR.out (by omega)).mono ?_
  rintro e w1 ⟨v, rfl, ho, hb1⟩
  have hl1 : (lv ss (min 38 ss.length)).length = min 38 ss.length + 1 := lv_length _ _ (Nat.min_le_right _ _)
  have hlo : 1 ≤ (lv ss (min 38 ss.length)).length ∧ (lv ss (min 38 ss.length)).length ≤ 39 := by omega
  have hzs := lv_sizes ss (min 38 ss.length)
  clear hl1
  generalize lv ss (min 38 ss.length) = L at *
  obtain ⟨hL1, hL2⟩ := hlo
  obtain ⟨g, cp, rfl, _, hcp, hcm, hrow⟩ := ho.open (by intro h; rw [h] at hL1; simp at hL1) (fun s hs => Nat.le_trans (hzs s hs) (by decide)) (by unfold maxLen; omega)
  clear ho
  obtain ⟨m', hm'⟩ : ∃ m : Nat, pickOf c1 L.length = (m : Int) := ⟨(pickOf c1 L.length).toNat, by have := pickOf_nonneg c1 L.length (by omega); omega⟩
  have hml : m' < L.length := by have := pickOf_lt c1 L.length (by omega); omega
  obtain ⟨m, hm⟩ : ∃ m, m = 1 + m' := ⟨_, rfl⟩
  obtain ⟨i, hi⟩ : ∃ i : Nat, pickOf c2 m = (i : Int) := ⟨(pickOf c2 m).toNat, by have := pickOf_nonneg c2 m (by omega); omega⟩
  have him : i < m := by have := pickOf_lt c2 m (by omega); omega
  have hmL : m ≤ L.length := by omega
  have HP1 : Hid (∀ w, Calls Try.prog 8 #[.int .i64 c1, .int .i64 L.length] w fun e w' => e = .returned (.int .i64 m') ∧ w' = w) := fun w => by
    have := pick_any c1 L.length w hc1 (by omega) (by omega)
    rwa [hm'] at this
  have HP2 : Hid (∀ w, Calls Try.prog 8 #[.int .i64 c2, .int .i64 (1 + (m' : Int))] w fun e w' => e = .returned (.int .i64 i) ∧ w' = w) := fun w => by
    have := pick_any c2 m w hc2 (by omega) (by omega)
    rwa [hi, show (m : Int) = 1 + (m' : Int) by omega] at this
  have HRow : Hid (Row w1 (some ⟨g, 0, none⟩) L) := hrow
  have HZ : Hid (∀ s ∈ L, s.size ≤ 30) := hzs
  have HM : Hid (m = 1 + m') := hm
  clear hi hm' hc1 hc2 hrow hzs hm
  go_wp2_with fail
  refine (HP1.out _).mono ?_
  rintro e w2 ⟨rfl, rfl⟩
  go_wp2_with fail
  refine (HP2.out _).mono ?_
  rintro e w3 ⟨rfl, rfl⟩
  clear HP1 HP2
  go_upto_if 48 with fail
  go_cut [3, 12] (fun s n wx => s = .string (cut14 ahead) ∧ n = .int .i64 m ∧ wx = w3)
  case first =>
    by_cases hA : 14 < ahead.size
    · have hx : cut14 ahead = ahead.extract 0 14 := if_pos hA
      have hAi : (14 : Int) < (ahead.size : Int) := by omega
      have HX : Hid _ := hx
      clear hx
      go_wp2_with fail
      go_meet
      exact ⟨by rw [HX.out], val_int (by have := HM.out; omega), rfl⟩
    · have hx : cut14 ahead = ahead := if_neg hA
      have hAi : ¬ (14 : Int) < (ahead.size : Int) := by omega
      have HX : Hid _ := hx
      clear hx
      go_wp2_with fail
      go_meet
      exact ⟨by rw [HX.out], val_int (by have := HM.out; omega), rfl⟩
  case rest =>
  obtain ⟨rfl, rfl, rfl⟩ := hcut
  clear HM hml
  go_upto_if 53 with fail
  go_cut [4] (fun s wx => s = .string (cut14 behind) ∧ wx = wc)
  case first =>
    by_cases hA : 14 < behind.size
    · have hx : cut14 behind = behind.extract 0 14 := if_pos hA
      have hAi : (14 : Int) < (behind.size : Int) := by omega
      have HX : Hid _ := hx
      clear hx
      go_wp2_with fail
      go_meet
      exact ⟨by rw [HX.out], rfl⟩
    · have hx : cut14 behind = behind := if_neg hA
      have hAi : ¬ (14 : Int) < (behind.size : Int) := by omega
      have HX : Hid _ := hx
      clear hx
      go_wp2_with fail
      go_meet
      exact ⟨by rw [HX.out], rfl⟩
  case rest =>
  obtain ⟨rfl, rfl⟩ := hcut
  have ha := cut14_size ahead
  have hb := cut14_size behind
  have HNE : Hid _ := failed_ne (cut14 ahead) (cut14 behind)
  have HSU : Hid _ := failed_sums (cut14 ahead) (cut14 behind)
  generalize cut14 ahead = A0 at *
  generalize cut14 behind = B0 at *
  have zA := three_size A0 B0 1 1 ha hb
  have zB := three_size A0 B0 250 35 ha hb
  obtain ⟨XA, hXA⟩ : ∃ X, A0 ++ ⟨#[1, 1]⟩ ++ B0 = X := ⟨_, rfl⟩
  obtain ⟨XB, hXB⟩ : ∃ X, A0 ++ ⟨#[250, 35]⟩ ++ B0 = X := ⟨_, rfl⟩
  rw [hXA] at zA
  rw [hXB] at zB
  rw [hXA, hXB] at HNE HSU
  have htl : (L.take m).length = m := by rw [List.length_take]; omega
  have HTL : Hid _ := htl
  have HN1 : Hid _ := row_news (HRow.out.take m)
  have hgl := HRow.out.lt g 0 (by intro h; rw [h] at hL1; simp at hL1) rfl
  clear htl hah hbe
  go_wp2_with (at_builtin; refine wpList_append_own _ rfl (.tmp 56) (.tmp 59) 39 rfl wc.heap.size 9 i0 (.string ByteArray.empty) 1 16 Try.underlying39 hinf hz0 hz1 hz2 rfl (by decide) _ 0 [] rfl (World.ownsRow_nil _ _ _ _) ⟨g, 0, none⟩ m cp ((L.take m).map Value.string) rfl (by rw [List.length_map, HTL.out, Nat.mul_one]) HN1.out all_cells (by unfold maxLen; omega) (by omega) (Nat.le_refl _) ?_)
  intro v9 w9 ho9 hg9 _
  have hO9 : Own w9 wc.heap.size v9 (L.take m) := by
    unfold Own
    rw [HTL.out]
    simpa using ho9
  have b9 : Below wc.heap.size wc w9 := (Below.refl _ _).grown hg9 (Nat.le_refl _) (fun k hk => by cases hk)
  have hsz9 : ∀ s ∈ L.take m, s.size ≤ maxLen := fun s hs => Nat.le_trans (HZ.out s (List.mem_of_mem_take hs)) (by decide)
  obtain ⟨ga, ca, hv9, hga, hca, hcma, _⟩ := hO9.open (by intro h; have := HTL.out; rw [h] at this; simp at this; omega) hsz9 (by rw [HTL.out]; unfold maxLen; omega)
  rw [HTL.out] at hv9 hca
  subst hv9
  have hOA := hO9.set i XA
  obtain ⟨cA, fA⟩ := hO9.cells i (by rw [HTL.out]; exact him)
  have lga := (hO9.lt ga rfl).2
  have hT9 : Turn (fun k => k = ga) w9 (w9.setCell ⟨ga, i, none⟩ (.string XA)) := (Turn.refl (fun k => k = ga) w9).setCell (fun _ => rfl) _
  have hRL9 := (HRow.out.grow b9 (Nat.le_refl _)).turn hT9 (fun b o _ he h => by
    simp only [Option.some.injEq, Addr.mk.injEq, and_true] at he
    omega)
  have HRL9 : Hid _ := hRL9
  have HN2 : Hid _ := row_news hRL9
  have k9 : Below w.heap.size w (w9.setCell ⟨ga, i, none⟩ (.string XA)) := (hb1.trans (b9.mono hb1.size)).setCell (by have := hb1.size; simp; omega) _
  have HOA : Hid _ := hOA
  have hs9 : (w9.setCell ⟨ga, i, none⟩ (.string XA)).heap.size = w9.heap.size := by simp
  have HS9 : Hid _ := hs9
  clear ho9 hg9 hRL9 hOA hs9 hO9 HN1 hsz9
  go_wp2_with (at_builtin; refine wpList_append_own _ rfl (.tmp 68) (.tmp 69) 39 rfl w9.heap.size 9 i0 (.string ByteArray.empty) 1 16 Try.underlying39 hinf hz0 hz1 hz2 rfl (by decide) _ 0 [] rfl (World.ownsRow_nil _ _ _ _) ⟨g, 0, none⟩ L.length cp (L.map Value.string) rfl (by simp) HN2.out all_cells (by unfold maxLen; omega) (by omega) (by rw [HS9.out]; exact Nat.le_refl _) ?_)
  intro v12 w12 ho12 hg12 _
  have hO12 : Own w12 w9.heap.size v12 L := by
    unfold Own
    simpa using ho12
  have hsL : ∀ s ∈ L, s.size ≤ maxLen := fun s hs => Nat.le_trans (HZ.out s hs) (by decide)
  have b12 : Below w9.heap.size (w9.setCell ⟨ga, i, none⟩ (.string XA)) w12 := (Below.refl _ _).grown hg12 (by rw [HS9.out]; exact Nat.le_refl _) (fun k hk => by cases hk)
  obtain ⟨gb, cb, hv12, hgb, hcb, hcmb, _⟩ := hO12.open (by intro h; rw [h] at hL1; simp at hL1) hsL (by unfold maxLen; omega)
  subst hv12
  have hOB := hO12.set i XB
  obtain ⟨cB, fB⟩ := hO12.cells i (by omega)
  have lgb := (hO12.lt gb rfl).2
  have hT12 : Turn (fun k => k = gb) w12 (w12.setCell ⟨gb, i, none⟩ (.string XB)) := (Turn.refl (fun k => k = gb) w12).setCell (fun _ => rfl) _
  have hOA12 := (Own.grow HOA.out (w' := w12) (by rw [HS9.out]; exact b12)).turn hT12 (fun k hk h => by
    simp only [Value.ownBlock, Option.some.injEq] at hk
    omega)
  have k12 : Below w.heap.size w (w12.setCell ⟨gb, i, none⟩ (.string XB)) := (k9.trans (b12.mono (by have := k9.size; rw [HS9.out] at this; exact this))).setCell (by have := k9.size; rw [HS9.out] at this; simp; omega) _
  have hal : ((L.take m).set i XA).length = m := by rw [List.length_set, HTL.out]
  have hbl : (L.set i XB).length = L.length := List.length_set
  have hza : ∀ s ∈ (L.take m).set i XA, s.size ≤ 30 := fun s hs => by
    rcases List.mem_or_eq_of_mem_set hs with h | h
    · exact HZ.out s (List.mem_of_mem_take h)
    · rw [h]; exact zA
  have hzb : ∀ s ∈ L.set i XB, s.size ≤ 30 := fun s hs => by
    rcases List.mem_or_eq_of_mem_set hs with h | h
    · exact HZ.out s h
    · rw [h]; exact zB
  have hai : ((L.take m).set i XA)[i]? = some XA := by
    rw [List.getElem?_set_self (by rw [HTL.out]; exact him)]
  have hbi : (L.set i XB)[i]? = some XB := by
    rw [List.getElem?_set_self (by omega)]
  obtain ⟨E1, E2, E3, x, y, E4, hxy, hsum⟩ := failed_plain L m i XA XB him hmL (by omega) zA zB HNE.out HSU.out
  have hzx := clashA_sizes m i XA (Pl.path ((L.take m).set i XA) i) L.length i XB (Pl.path (L.set i XB) i) (Pl.parts (L.set i XB) m true)
  rw [E4] at hzx
  have HE1 : Hid _ := E1
  have HE2 : Hid _ := E2
  have HE3 : Hid _ := E3
  have HE4 : Hid _ := E4
  have Hxy : Hid _ := hxy
  have Hsum : Hid _ := hsum
  have Hal : Hid _ := hal
  have Hbl : Hid _ := hbl
  have Hza : Hid _ := hza
  have Hzb : Hid _ := hzb
  have Hai : Hid _ := hai
  have Hbi : Hid _ := hbi
  have Hzx : Hid _ := hzx
  clear E1 E2 E3 E4 hxy hsum hal hbl hza hzb hai hbi hzx
  have HOA2 : Hid _ := hOA12
  have HOB2 : Hid _ := hOB
  have HK12 : Hid _ := k12
  clear ho12 hg12 hO12 hsL b12 hOB hT12 hOA12 k12 HOA k9 HS9 HRL9 HN2 hT9 b9 hb1 HRow HNE HSU
  go_upto_region 14 with fail
  have RA := Own.rowAt HOA2.out (fun s hs => Nat.le_trans (Hza.out s hs) (by decide)) (by rw [Hal.out]; unfold maxLen; omega)
  have RB := Own.rowAt HOB2.out (fun s hs => Nat.le_trans (Hzb.out s hs) (by decide)) (by rw [Hbl.out]; unfold maxLen; omega)
  have hk := HK12.out
  clear HOA2 HOB2 HK12 cA fA cB fB lga lgb
  generalize w12.setCell ⟨gb, i, none⟩ (.string XB) = W at *
  have CA : Hid (∀ w', Row w' (some ⟨ga, 0, none⟩) ((L.take m).set i XA) → w'.cell? ⟨ga, i, none⟩ = some (.string XA)) := fun w' h => by
    have h1 := h.cellAt i (by rw [Hal.out]; exact him)
    rw [Nat.zero_add] at h1
    have h2 := Hai.out
    rw [List.getElem?_eq_getElem (by rw [Hal.out]; exact him)] at h2
    injection h2 with h2
    rw [h1, h2]
  have CB : Hid (∀ w', Row w' (some ⟨gb, 0, none⟩) (L.set i XB) → w'.cell? ⟨gb, i, none⟩ = some (.string XB)) := fun w' h => by
    have h1 := h.cellAt i (by rw [Hbl.out]; omega)
    rw [Nat.zero_add] at h1
    have h2 := Hbi.out
    rw [List.getElem?_eq_getElem (by rw [Hbl.out]; omega)] at h2
    injection h2 with h2
    rw [h1, h2]
  have oka : okB ((L.take m).set i XA) = true := okB_mk (by rw [Hal.out]; omega) Hza.out
  have okb : okB (L.set i XB) = true := okB_mk (by rw [Hbl.out]; omega) Hzb.out
  have H1 : Hid (∀ w', Row w' (some ⟨ga, 0, none⟩) ((L.take m).set i XA) → Calls Try.prog 24 #[.slice (some ⟨ga, 0, none⟩) m ca] w' fun e w'' => e = .returned (.tuple #[.string (Pl.root ((L.take m).set i XA)), .int .i64 0]) ∧ Below w'.heap.size w' w'') := fun w' h => troot_to _ ca m _ _ w' Hal.out hca hcma h (by omega) Hza.out rfl
  have H2 : Hid (∀ w', Row w' (some ⟨gb, 0, none⟩) (L.set i XB) → Calls Try.prog 24 #[.slice (some ⟨gb, 0, none⟩) L.length cb] w' fun e w'' => e = .returned (.tuple #[.string (Pl.root (L.set i XB)), .int .i64 0]) ∧ Below w'.heap.size w' w'') := fun w' h => troot_to _ cb L.length _ _ w' Hbl.out hcb hcmb h (by omega) Hzb.out rfl
  have H3 : Hid (∀ w', Row w' (some ⟨ga, 0, none⟩) ((L.take m).set i XA) → Calls Try.prog 21 #[.slice (some ⟨ga, 0, none⟩) m ca, .int .i64 i] w' fun e w'' => ∃ v, e = .returned (.tuple #[v, .int .i64 0]) ∧ Own w'' w'.heap.size v (Pl.path ((L.take m).set i XA) i) ∧ Below w'.heap.size w' w'') := fun w' h => by
    have := tincl_yes _ ca ((L.take m).set i XA) (i : Int) w' (by rw [Hal.out]; exact hca) hcma h (by unfold inclB; rw [oka, Hal.out]; simp; omega)
    rwa [Int.toNat_natCast, Hal.out] at this
  have H4 : Hid (∀ w', Row w' (some ⟨gb, 0, none⟩) (L.set i XB) → Calls Try.prog 21 #[.slice (some ⟨gb, 0, none⟩) L.length cb, .int .i64 i] w' fun e w'' => ∃ v, e = .returned (.tuple #[v, .int .i64 0]) ∧ Own w'' w'.heap.size v (Pl.path (L.set i XB) i) ∧ Below w'.heap.size w' w'') := fun w' h => by
    have := tincl_yes _ cb (L.set i XB) (i : Int) w' (by rw [Hbl.out]; exact hcb) hcmb h (by unfold inclB; rw [okb, Hbl.out]; simp; omega)
    rwa [Int.toNat_natCast, Hbl.out] at this
  have H5 : Hid (∀ w', Row w' (some ⟨gb, 0, none⟩) (L.set i XB) → Calls Try.prog 18 #[.slice (some ⟨gb, 0, none⟩) L.length cb, .int .i64 m] w' fun e w'' => ∃ v, e = .returned (.tuple #[v, .int .i64 0]) ∧ Own w'' w'.heap.size v (Pl.parts (L.set i XB) m true) ∧ Below w'.heap.size w' w'') := fun w' h => by
    have := text_yes _ cb (L.set i XB) (m : Int) w' (by rw [Hbl.out]; exact hcb) hcmb h (by unfold extB; rw [okb, Hbl.out]; simp; omega)
    rwa [Int.toNat_natCast, Hbl.out] at this
  have zXA : XA.size ≤ maxLen := Nat.le_trans zA (by decide)
  have zXB : XB.size ≤ maxLen := Nat.le_trans zB (by decide)
  have H6 : Hid (∀ p cap w', Row w' p (Pl.path ((L.take m).set i XA) i) → Calls Try.prog 25 #[.string (Pl.root ((L.take m).set i XA)), .agg #[.int .i64 m, .int .i64 i, .string XA, .slice p (Pl.path ((L.take m).set i XA) i).length cap]] w' fun e w'' => e = .returned (.int .i64 0) ∧ Below w'.heap.size w' w'') := fun p cap w' h => by
    have := tincl_any (Pl.root ((L.take m).set i XA)) m i XA p cap _ w' (root_le _) zXA h
    rwa [HE1.out] at this
  have H7 : Hid (∀ p cap w', Row w' p (Pl.path (L.set i XB) i) → Calls Try.prog 25 #[.string (Pl.root (L.set i XB)), .agg #[.int .i64 L.length, .int .i64 i, .string XB, .slice p (Pl.path (L.set i XB) i).length cap]] w' fun e w'' => e = .returned (.int .i64 0) ∧ Below w'.heap.size w' w'') := fun p cap w' h => by
    have := tincl_any (Pl.root (L.set i XB)) L.length i XB p cap _ w' (root_le _) zXB h
    rwa [HE2.out] at this
  have H8 : Hid (∀ p cap w', Row w' p (Pl.parts (L.set i XB) m true) → (Pl.parts (L.set i XB) m true).length ≤ cap → Calls Try.prog 26 #[.agg #[.int .i64 m, .string (Pl.root ((L.take m).set i XA))], .agg #[.int .i64 L.length, .string (Pl.root (L.set i XB))], .slice p (Pl.parts (L.set i XB) m true).length cap] w' fun e w'' => e = .returned (.int .i64 0) ∧ Below w'.heap.size w' w'') := fun p cap w' h hc => by
    have := text_any m L.length (Pl.root ((L.take m).set i XA)) (Pl.root (L.set i XB)) p cap _ w' (root_le _) (root_le _) h hc
    rwa [HE3.out] at this
  have H9 : Hid (∀ p1 k1 p2 k2 p3 k3 w', Row w' p1 (Pl.path ((L.take m).set i XA) i) → Row w' p2 (Pl.path (L.set i XB) i) → Row w' p3 (Pl.parts (L.set i XB) m true) → (Pl.parts (L.set i XB) m true).length ≤ k3 → Calls Try.prog 27 #[.agg #[.int .i64 m, .int .i64 i, .string XA, .slice p1 (Pl.path ((L.take m).set i XA) i).length k1], .agg #[.int .i64 L.length, .int .i64 i, .string XB, .slice p2 (Pl.path (L.set i XB) i).length k2], .slice p3 (Pl.parts (L.set i XB) m true).length k3] w' fun e w'' => e = .returned (.tuple #[.string x, .string y, .int .i64 0]) ∧ Below w'.heap.size w' w'') := fun p1 k1 p2 k2 p3 k3 w' h1 h2 h3 hc => by
    have := tclash_any m i XA p1 _ k1 L.length i XB p2 _ k2 p3 _ k3 w' zXA zXB h1 h2 h3 hc
    rwa [HE4.out] at this
  have HS1 : Hid _ := fun w => tsum_one x w (Nat.le_trans Hzx.out.1 (by decide))
  have HS2 : Hid _ := fun w => tsum_one y w (Nat.le_trans Hzx.out.2 (by decide))
  rw [← Hsum.out] at HS2
  have hPa := Pl.path_sizes ((L.take m).set i XA).length ((L.take m).set i XA) i (Nat.le_refl _)
  have hPb := Pl.path_sizes (L.set i XB).length (L.set i XB) i (Nat.le_refl _)
  have hPc := Pl.parts_sizes (L.set i XB).length (L.set i XB) m true (Nat.le_refl _) (by omega) (by rw [Hbl.out]; exact hmL)
  have lPa := Pl.path_length ((L.take m).set i XA).length ((L.take m).set i XA) i (Nat.le_refl _)
  have lPb := Pl.path_length (L.set i XB).length (L.set i XB) i (Nat.le_refl _)
  have lPc := Pl.parts_length (L.set i XB).length (L.set i XB) m true (Nat.le_refl _) (by omega) (by rw [Hbl.out]; exact hmL)
  rw [Hal.out] at lPa
  rw [Hbl.out] at lPb lPc
  have HPa : Hid _ := hPa
  have HPb : Hid _ := hPb
  have HPc : Hid _ := hPc
  have hne := bytes_ne Hxy.out
  have NA : Hid ((L.take m).set i XA ≠ []) := by
    intro h0
    have := Hal.out
    rw [h0] at this
    simp at this
    omega
  have NB : Hid (L.set i XB ≠ []) := by
    intro h0
    have := Hbl.out
    rw [h0] at this
    simp at this
    omega
  clear hPa hPb hPc Hsum Hxy Hzx Hai Hbi Hza Hzb HE1 HE2 HE3 HE4 oka okb zXA zXB
  generalize Pl.path ((L.take m).set i XA) i = PA at *
  generalize Pl.path (L.set i XB) i = PB at *
  generalize Pl.parts (L.set i XB) m true = PC at *
  generalize Pl.root ((L.take m).set i XA) = R1 at *
  generalize Pl.root (L.set i XB) = R2 at *
  generalize (L.take m).set i XA = al at *
  generalize L.set i XB = bl at *
  generalize Pl.sumB x = S at *
  clear Hal Hbl HTL HZ
  go_wp2_with fail
  refine (H1.out _ RA).mono ?_
  rintro e w2 ⟨rfl, b2⟩
  have RB2 := RB.grow b2 (Nat.le_refl _)
  have RA2 := RA.grow b2 (Nat.le_refl _)
  have k2 := hk.trans (b2.mono hk.size)
  clear RA RB hk b2 H1
  go_wp2_with fail
  refine (H2.out _ RB2).mono ?_
  rintro e w3 ⟨rfl, b3⟩
  have RB3 := RB2.grow b3 (Nat.le_refl _)
  have RA3 := RA2.grow b3 (Nat.le_refl _)
  have k3 := k2.trans (b3.mono k2.size)
  clear RA2 RB2 k2 b3 H2
  go_wp2_with fail
  refine (H3.out _ RA3).mono ?_
  rintro e w4 ⟨v4, rfl, o4, b4⟩
  obtain ⟨p4, q4, rfl, _, _, r4, _⟩ := o4.any HPa.out (by unfold maxLen; omega)
  have RB4 := RB3.grow b4 (Nat.le_refl _)
  have RA4 := RA3.grow b4 (Nat.le_refl _)
  have k4 := k3.trans (b4.mono k3.size)
  clear RA3 RB3 k3 b4 H3 o4 HPa
  go_wp2_with fail
  refine (H4.out _ RB4).mono ?_
  rintro e w5 ⟨v5, rfl, o5, b5⟩
  obtain ⟨p5, q5, rfl, _, _, r5, _⟩ := o5.any HPb.out (by unfold maxLen; omega)
  have RB5 := RB4.grow b5 (Nat.le_refl _)
  have RA5 := RA4.grow b5 (Nat.le_refl _)
  have r45 := r4.grow b5 (Nat.le_refl _)
  have k5 := k4.trans (b5.mono k4.size)
  clear RA4 RB4 k4 b5 H4 o5 HPb r4
  go_wp2_with fail
  refine (H5.out _ RB5).mono ?_
  rintro e w6 ⟨v6, rfl, o6, b6⟩
  obtain ⟨p6, q6, rfl, hq6, _, r6, _⟩ := o6.any HPc.out (by unfold maxLen; omega)
  have RB6 := RB5.grow b6 (Nat.le_refl _)
  have RA6 := RA5.grow b6 (Nat.le_refl _)
  have r46 := r45.grow b6 (Nat.le_refl _)
  have r56 := r5.grow b6 (Nat.le_refl _)
  have k6 := k5.trans (b6.mono k5.size)
  have cA := CA.out _ RA6
  have cB := CB.out _ RB6
  have lA := RA6.lt ga 0 NA.out rfl
  have lB := RB6.lt gb 0 NB.out rfl
  clear RA5 RB5 k5 b6 H5 o6 HPc r45 r5
  go_upto_region 21 with fail
  have hX : Box ((w6.alloc (.cells #[.int .i64 m, .int .i64 i, .string XA, .slice p4 PA.length q4] 53)).alloc (.cells #[.int .i64 L.length, .int .i64 i, .string XB, .slice p5 PB.length q5] 53)) w6.heap.size 53 [.int .i64 m, .int .i64 i, .string XA, .slice p4 PA.length q4] := (Box.new w6 53 [.int .i64 m, .int .i64 i, .string XA, .slice p4 PA.length q4]).alloc _
  have hY : Box ((w6.alloc (.cells #[.int .i64 m, .int .i64 i, .string XA, .slice p4 PA.length q4] 53)).alloc (.cells #[.int .i64 L.length, .int .i64 i, .string XB, .slice p5 PB.length q5] 53)) (w6.heap.size + 1) 53 [.int .i64 L.length, .int .i64 i, .string XB, .slice p5 PB.length q5] := Box.new2 w6 _ 53 [.int .i64 L.length, .int .i64 i, .string XB, .slice p5 PB.length q5]
  have bW : Below w6.heap.size w6 ((w6.alloc (.cells #[.int .i64 m, .int .i64 i, .string XA, .slice p4 PA.length q4] 53)).alloc (.cells #[.int .i64 L.length, .int .i64 i, .string XB, .slice p5 PB.length q5] 53)) := ((Below.refl _ _).alloc (Nat.le_refl _) _).alloc (by simp) _
  have k7 := k6.trans (bW.mono k6.size)
  have r47 := r46.grow bW (Nat.le_refl _)
  have r57 := r56.grow bW (Nat.le_refl _)
  have r67 := r6.grow bW (Nat.le_refl _)
  clear bW k6 r46 r56 r6 cA cB lA lB RA6 RB6 CA CB NA NB
  generalize (w6.alloc (.cells #[.int .i64 m, .int .i64 i, .string XA, .slice p4 PA.length q4] 53)).alloc (.cells #[.int .i64 L.length, .int .i64 i, .string XB, .slice p5 PB.length q5] 53) = w7 at *
  generalize w6.heap.size = FA at *
  have a0 := hX.cell 0
  have a1 := hX.cell 1
  have a2 := hX.cell 2
  have a3 := hX.cell 3
  go_wp2_with fail
  refine (H6.out _ _ _ r47).mono ?_
  rintro e w8 ⟨rfl, b8⟩
  have k8 := k7.trans (b8.mono k7.size)
  have hX8 := hX.grow b8 hX.lt
  have hY8 := hY.grow b8 hY.lt
  have r48 := r47.grow b8 (Nat.le_refl _)
  have r58 := r57.grow b8 (Nat.le_refl _)
  have r68 := r67.grow b8 (Nat.le_refl _)
  clear b8 k7 hX hY r47 r57 r67 H6 a0 a1 a2 a3
  have a0 := hY8.cell 0
  have a1 := hY8.cell 1
  have a2 := hY8.cell 2
  have a3 := hY8.cell 3
  go_wp2_with fail
  refine (H7.out _ _ _ r58).mono ?_
  rintro e w9b ⟨rfl, b9⟩
  have k9 := k8.trans (b9.mono k8.size)
  have hX9 := hX8.grow b9 hX8.lt
  have hY9 := hY8.grow b9 hY8.lt
  have r49 := r48.grow b9 (Nat.le_refl _)
  have r59 := r58.grow b9 (Nat.le_refl _)
  have r69 := r68.grow b9 (Nat.le_refl _)
  clear b9 k8 hX8 hY8 r48 r58 r68 H7 a0 a1 a2 a3
  go_wp2_with fail
  refine (H8.out _ _ _ r69 hq6).mono ?_
  rintro e wa ⟨rfl, ba⟩
  have ka := k9.trans (ba.mono k9.size)
  have hXa := hX9.grow ba hX9.lt
  have hYa := hY9.grow ba hY9.lt
  have r4a := r49.grow ba (Nat.le_refl _)
  have r5a := r59.grow ba (Nat.le_refl _)
  have r6a := r69.grow ba (Nat.le_refl _)
  clear ba k9 hX9 hY9 r49 r59 r69 H8
  have a0 := hXa.cell 0
  have a1 := hXa.cell 1
  have a2 := hXa.cell 2
  have a3 := hXa.cell 3
  have b0 := hYa.cell 0
  have b1 := hYa.cell 1
  have b2 := hYa.cell 2
  have b3 := hYa.cell 3
  go_wp2_with fail
  refine (H9.out _ _ _ _ _ _ _ r4a r5a r6a hq6).mono ?_
  rintro e wb ⟨rfl, bb⟩
  have kb := ka.trans (bb.mono ka.size)
  clear bb ka hXa hYa r4a r5a r6a H9 a0 a1 a2 a3 b0 b1 b2 b3
  go_wp2_with fail
  refine (HS1.out _).mono ?_
  rintro e wd ⟨rfl, bd⟩
  have kd := kb.trans (bd.mono kb.size)
  clear bd kb
  go_wp2_with fail
  refine (HS2.out _).mono ?_
  rintro e we ⟨rfl, be⟩
  have ke := kd.trans (be.mono kd.size)
  clear be kd
  go_wp2_with fail
  go_ret
  exact ⟨rfl, ke⟩

theorem failed_walk (v : Value) (ss : List ByteArray) (c1 c2 : Int) (ahead behind : ByteArray) (w : World) (hr : IsRow w v ss) (h1 : Fits c1) (h2 : Fits c2) (h3 : ahead.size ≤ maxLen) (h4 : behind.size ≤ maxLen) :
    Calls Try.prog 6 #[v, .int .i64 c1, .int .i64 c2, .string ahead, .string behind] w fun e w' => e = .returned (.bool true) ∧ Below w.heap.size w w' := by
  obtain ⟨p, c, rfl, _, _, hr⟩ := hr.parts
  exact failed_row p c ss c1 c2 ahead behind w hr h1 h2 h3 h4
end Go.Proofs.Ytkhnjipjbhcgdab
