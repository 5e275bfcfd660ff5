/-
  THE WALK of (*fold).climb.
-/
import Derived.Test.YtnekilnfhkoogaaTFold
import Derived.Laws.EntriesVeiled
namespace Go.Proofs.Ytnekilnfhkoogaa
open Go.RowKit

theorem climbB_len {S : List Bool} {P : List ByteArray} (h : ¬ P.length = S.length) : Pl.climbB S P = false := by unfold Pl.climbB; simp [h]
theorem climbB_bad {S : List Bool} {P : List ByteArray} (k : Nat) (hk : k < P.length) (h : Pl.isSumB P[k] = false) : Pl.climbB S P = false := by
  unfold Pl.climbB
  have : P.all Pl.isSumB = false := by
    rw [List.all_eq_false]
    exact ⟨P[k], List.getElem_mem _, by simp [h]⟩
  rw [this, Bool.and_false]
theorem climbB_good {S : List Bool} {P : List ByteArray} (h : P.length = S.length) (ha : ∀ k (hk : k < P.length), Pl.isSumB P[k] = true) : Pl.climbB S P = true := by
  unfold Pl.climbB
  rw [decide_eq_true h, Bool.true_and, List.all_eq_true]
  intro x hx
  obtain ⟨k, hk, rfl⟩ := List.getElem_of_mem hx
  exact ha k hk
theorem stand_sizes (rs : List ByteArray) (s : Bool) (p : ByteArray) (hz : ∀ r ∈ rs, r.size = 4) : ∀ r ∈ Pl.stand rs s p, r.size = 4 := by
  intro r hr
  unfold Pl.stand at hr
  split at hr
  · simp only [List.mem_map] at hr
    obtain ⟨x, _, rfl⟩ := hr
    rfl
  · rw [List.mem_append] at hr
    rcases hr with hr | hr
    · exact hz r (List.dropLast_subset _ hr)
    · simp only [List.mem_singleton] at hr
      rw [hr]
      rfl
theorem climb_sizes : ∀ (S : List Bool) (P rs : List ByteArray), (∀ r ∈ rs, r.size = 4) → ∀ r ∈ Pl.climb rs S P, r.size = 4 := by
  intro S
  induction S with
  | nil => intro P rs hz; unfold Pl.climb; exact hz
  | cons s S ih =>
    intro P rs hz
    match P with
    | [] => exact hz
    | p :: P => exact ih P _ (stand_sizes rs s p hz)

set_option maxRecDepth 100000 in
set_option maxHeartbeats 4000000 in
theorem tclimb_len (F : Nat) (S : List Bool) (P : List ByteArray) (q p : Option Addr) (sc cap : Nat) (w : World) (h : ¬ P.length = S.length) :
    Calls Try.prog 85 #[.pointer (some ⟨F, 0, none⟩), .slice q S.length sc, .slice p P.length cap] w fun e w' => e = .returned (.bool false) ∧ w' = w := by
  have hne : ((P.length : Int) != (S.length : Int)) = true := by rw [bne_iff_ne]; omega
  go_enter Try.func85, Try.ntmps85
  go_wp2_with fail
  go_ret
  exact ⟨rfl, rfl⟩

set_option maxRecDepth 100000 in
set_option maxHeartbeats 4000000 in
theorem tclimb_same (F R : Nat) (rs : List ByteArray) (S : List Bool) (P : List ByteArray) (q p : Option Addr) (sc cap : Nat) (w : World) (hn : rs.length = 1 ∨ rs.length = 2) (hFR : F ≠ R)
    (hF : Box w F 89 [.slice (some ⟨R, 0, none⟩) rs.length rs.length]) (hR : Box w R 9 (rs.map Value.string)) (hz : ∀ r ∈ rs, r.size = 4)
    (hS : S.length ≤ 40) (hSr : SRow w q S) (hSR : ∀ g, q = some ⟨g, 0, none⟩ → g ≠ R) (hPr : Row w p P) (hPR : ∀ b o, P ≠ [] → p = some ⟨b, o, none⟩ → b ≠ R) (hlen : P.length = S.length) (hsc : S.length ≤ sc) (hsm : sc ≤ 9223372036854775807) :
    Calls Try.prog 85 #[.pointer (some ⟨F, 0, none⟩), .slice q S.length sc, .slice p P.length cap] w fun e w' => e = .returned (.bool (Pl.climbB S P)) ∧ But R w w' ∧ (Pl.climbB S P = true → Box w' R 9 ((Pl.climb rs S P).map Value.string)) := by
  have hne : ((S.length : Int) != (S.length : Int)) = false := by simp
  have HG : Hid (∀ (ha : ∀ k (hk : k < P.length), Pl.isSumB P[k] = true), Pl.climbB S P = true) := fun ha => climbB_good hlen ha
  have HBad : Hid (∀ k (hk : k < P.length), Pl.isSumB P[k] = false → Pl.climbB S P = false) := fun k hk h => climbB_bad k hk h
  have HCl : Hid (∀ k, (Pl.climb rs (S.take k) (P.take k)).length = rs.length) := fun k => Pl.climb_length _ _ _ (by omega)
  have HCz : Hid (∀ k, ∀ r ∈ Pl.climb rs (S.take k) (P.take k), r.size = 4) := fun k => climb_sizes _ _ _ hz
  have HCs : Hid (∀ k (h1 : k < S.length) (h2 : k < P.length), Pl.climb rs (S.take (k + 1)) (P.take (k + 1)) = Pl.stand (Pl.climb rs (S.take k) (P.take k)) S[k] P[k]) := fun k h1 h2 => Pl.climb_take S P rs k h1 h2
  have HCe : Hid (∀ k, k = S.length → Pl.climb rs (S.take k) (P.take k) = Pl.climb rs S P) := fun k hk => by rw [List.take_of_length_le (by omega), List.take_of_length_le (by omega)]
  have hb0 : Below w.heap.size w (w.alloc (.cells #[.func (.func 100) #[] #[], .func (.func 101) #[] #[]] 109)) := (Below.refl _ _).alloc (Nat.le_refl _) _
  have HF0 : Hid (Box (w.alloc (.cells #[.func (.func 100) #[] #[], .func (.func 101) #[] #[]] 109)) F 89 [.slice (some ⟨R, 0, none⟩) rs.length rs.length]) := hF.grow hb0 hF.lt
  have HR0 : Hid (Box (w.alloc (.cells #[.func (.func 100) #[] #[], .func (.func 101) #[] #[]] 109)) R 9 ((Pl.climb rs (S.take 0) (P.take 0)).map Value.string)) := hR.grow hb0 hR.lt
  have HD0 : Hid (Box (w.alloc (.cells #[.func (.func 100) #[] #[], .func (.func 101) #[] #[]] 109)) w.heap.size 109 [.func (.func 100) #[] #[], .func (.func 101) #[] #[]]) := Box.new w _ _
  have HDR : Hid (w.heap.size ≠ R) := by have := hR.lt; show w.heap.size ≠ R; omega
  have HP0 : Hid (Row (w.alloc (.cells #[.func (.func 100) #[] #[], .func (.func 101) #[] #[]] 109)) p P) := hPr.grow hb0 (Nat.le_refl _)
  have HS0 : Hid (SRow (w.alloc (.cells #[.func (.func 100) #[] #[], .func (.func 101) #[] #[]] 109)) q S) := hSr.but (R := R) (But.of hb0) hSR
  have HSR : Hid (∀ g, q = some ⟨g, 0, none⟩ → g ≠ R) := hSR
  have HPR : Hid (∀ b o, P ≠ [] → p = some ⟨b, o, none⟩ → b ≠ R) := hPR
  have HPz : Hid (∀ s ∈ P, s.size ≤ maxLen) := hPr.size
  have HW : Hid (∀ w', But R (w.alloc (.cells #[.func (.func 100) #[] #[], .func (.func 101) #[] #[]] 109)) w' → But R w w') := fun w' h => (But.of hb0).trans h
  clear hF hR hPr hSr hSR hPR hb0 hz
  rw [hlen]
  have HLn : Hid (P.length = S.length) := hlen
  clear hlen
  go_enter Try.func85, Try.ntmps85
  go_wp2_with fail
  generalize w.alloc (.cells #[.func (.func 100) #[] #[], .func (.func 101) #[] #[]] 109) = w0 at *
  go_loopw [18] (fun i wr => ∃ k : Nat, k ≤ S.length ∧ i = .int .i64 k ∧ But R w0 wr ∧ Hid (Box wr R 9 ((Pl.climb rs (S.take k) (P.take k)).map Value.string)) ∧ Hid (∀ j (hj : j < P.length), j < k → Pl.isSumB P[j] = true)) (fun i _ => S.length - (intOf i).toNat)
  case atStart => exact ⟨0, by omega, rfl, But.refl _ _, HR0, fun j hj h => by omega⟩
  case round =>
    obtain ⟨k, hk, rfl, hbt, HB, HA⟩ := hrel
    by_cases hlt : k < S.length
    · have hkP : k < P.length := by rw [HLn.out]; exact hlt
      rcases (HP0.out.but hbt HPR.out).cell with h0 | ⟨b, o, rfl, _, hcell⟩
      · rw [h0] at hkP; exact absurd hkP (by simp)
      rcases HS0.out.but hbt HSR.out with h0 | ⟨g, rfl, _, hside⟩
      · rw [h0] at hlt; exact absurd hlt (by simp)
      have hck := hcell k hkP
      have hsk := hside k hlt
      have hDr := HD0.out.but hbt HDR.out
      have hFr := HF0.out.but hbt hFR
      have d0 := hDr.cell 0
      have d1 := hDr.cell 1
      have HT : Hid _ := fun w => tis_any P[k] w (HPz.out _ (List.getElem_mem _))
      clear hcell hside
      cases hsum : Pl.isSumB P[k] with
      | false =>
        have HX : Hid _ := HBad.out k hkP hsum
        rw [hsum] at HT
        clear hsum
        generalize P[k] = pk at *
        go_wp2_with fail
        refine (HT.out _).mono ?_
        rintro e w1 ⟨rfl, rfl⟩
        go_wp2_with fail
        go_ret
        refine ⟨ret_bool HX.out.symm, HW.out _ hbt, fun h => ?_⟩
        rw [HX.out] at h
        cases h
      | true =>
        have HN : Hid (∀ j (hj : j < P.length), j < k + 1 → Pl.isSumB P[j] = true) := by
          intro j hj hjk
          by_cases hjk2 : j < k
          · exact HA.out j hj hjk2
          · obtain rfl : j = k := by omega
            exact hsum
        rw [hsum] at HT
        clear hsum
        have HE : Hid _ := HCs.out k hlt hkP
        have hcl := HCl.out k
        cases hs : S[k] with
        | false =>
          rw [hs] at hsk HE
          have HL : Hid (∀ w, Box w F 89 [.slice (some ⟨R, 0, none⟩) (Pl.climb rs (S.take k) (P.take k)).length (Pl.climb rs (S.take k) (P.take k)).length] → Box w R 9 ((Pl.climb rs (S.take k) (P.take k)).map Value.string) → Calls Try.prog 100 #[.pointer (some ⟨F, 0, none⟩), .string P[k]] w fun e w' => e = .returned (.tuple #[]) ∧ But R w w' ∧ Box w' R 9 ((Pl.stand (Pl.climb rs (S.take k) (P.take k)) false P[k]).map Value.string)) := fun w h1 h2 => tleft_any F R _ _ w (by rw [hcl]; exact hn) h1 h2 (HCz.out k) (HPz.out _ (List.getElem_mem _))
          have HFr : Hid _ := hFr
          rw [hcl] at HL
          unfold sideV at hsk
          simp only [Bool.false_eq_true, if_false] at hsk
          clear hs hFr hDr
          generalize P[k] = pk at *
          go_wp2_with fail
          refine (HT.out _).mono ?_
          rintro e w1 ⟨rfl, rfl⟩
          go_wp2_with fail
          refine (HL.out _ HFr.out HB.out).mono ?_
          rintro e w2 ⟨rfl, hb2, hR2⟩
          have HR2 : Hid _ := hR2
          clear hR2
          go_wp2_with fail
          go_roundw
          case rel => exact ⟨k + 1, by omega, by go_num, hbt.trans hb2, by rw [HE.out]; exact HR2.out, HN⟩
          case measure => simp [intOf]; omega
        | true =>
          rw [hs] at hsk HE
          have HL : Hid (∀ w, Box w F 89 [.slice (some ⟨R, 0, none⟩) (Pl.climb rs (S.take k) (P.take k)).length (Pl.climb rs (S.take k) (P.take k)).length] → Box w R 9 ((Pl.climb rs (S.take k) (P.take k)).map Value.string) → Calls Try.prog 101 #[.pointer (some ⟨F, 0, none⟩), .string P[k]] w fun e w' => e = .returned (.tuple #[]) ∧ But R w w' ∧ Box w' R 9 ((Pl.stand (Pl.climb rs (S.take k) (P.take k)) true P[k]).map Value.string)) := fun w h1 h2 => tright_all F R _ _ w (by rw [hcl]; omega) hFR h1 h2 (HCz.out k) (HPz.out _ (List.getElem_mem _))
          have HFr : Hid _ := hFr
          rw [hcl] at HL
          unfold sideV at hsk
          simp only [if_true] at hsk
          clear hs hFr hDr
          generalize P[k] = pk at *
          go_wp2_with fail
          refine (HT.out _).mono ?_
          rintro e w1 ⟨rfl, rfl⟩
          go_wp2_with fail
          refine (HL.out _ HFr.out HB.out).mono ?_
          rintro e w2 ⟨rfl, hb2, hR2⟩
          have HR2 : Hid _ := hR2
          clear hR2
          go_wp2_with fail
          go_roundw
          case rel => exact ⟨k + 1, by omega, by go_num, hbt.trans hb2, by rw [HE.out]; exact HR2.out, HN⟩
          case measure => simp [intOf]; omega
    · have HX : Hid _ := HG.out fun j hj => HA.out j hj (by have := HLn.out; omega)
      have HY : Hid _ := HCe.out k (by omega)
      go_wp2_with fail
      go_ret
      exact ⟨ret_bool HX.out.symm, HW.out _ hbt, fun _ => by rw [← HY.out]; exact HB.out⟩

theorem tclimb_any (F R : Nat) (rs : List ByteArray) (S : List Bool) (P : List ByteArray) (q p : Option Addr) (sc cap : Nat) (w : World) (hn : rs.length = 1 ∨ rs.length = 2) (hFR : F ≠ R)
    (hF : Box w F 89 [.slice (some ⟨R, 0, none⟩) rs.length rs.length]) (hR : Box w R 9 (rs.map Value.string)) (hz : ∀ r ∈ rs, r.size = 4)
    (hS : S.length ≤ 40) (hSr : SRow w q S) (hSR : ∀ g, q = some ⟨g, 0, none⟩ → g ≠ R) (hPr : Row w p P) (hPR : ∀ b o, P ≠ [] → p = some ⟨b, o, none⟩ → b ≠ R) (hsc : S.length ≤ sc) (hsm : sc ≤ 9223372036854775807) :
    Calls Try.prog 85 #[.pointer (some ⟨F, 0, none⟩), .slice q S.length sc, .slice p P.length cap] w fun e w' => e = .returned (.bool (Pl.climbB S P)) ∧ But R w w' ∧ (Pl.climbB S P = true → Box w' R 9 ((Pl.climb rs S P).map Value.string)) := by
  by_cases h : P.length = S.length
  · exact tclimb_same F R rs S P q p sc cap w hn hFR hF hR hz hS hSr hSR hPr hPR h hsc hsm
  · refine (tclimb_len F S P q p sc cap w h).mono fun e w' ⟨he, hw⟩ => ?_
    subst hw
    rw [climbB_len h]
    exact ⟨he, But.refl _ _, fun hh => by cases hh⟩

end Go.Proofs.Ytnekilnfhkoogaa
