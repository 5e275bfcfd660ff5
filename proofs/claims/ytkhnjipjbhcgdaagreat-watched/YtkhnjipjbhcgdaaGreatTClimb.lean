import Derived.Test.YtkhnjipjbhcgdaaGreatTFold
import Derived.Laws.EntriesVeiled
/-
  THE WALK of (*fold).climb.
-/
namespace Go.Proofs.YtkhnjipjbhcgdaaGreat
open Go.RowKit

theorem climbB_len {S : List Bool} {P : List ByteArray} (h : ¬ P.length = S.length) : Pl.climbB S P = false := by unfold Pl.climbB; simp [h]
theorem climbB_bad {S : List Bool} {P : List ByteArray} (k : Nat) (hk : k < P.length) (h : Pl.isSumB P[k] = false) : Pl.climbB S P = false := by
  unfold Pl.climbB
  have : P.all Pl.isSumB = false := by
    rw [List.all_eq_false]
    exact ⟨P[k], List.getElem_mem _, by simp [h]⟩
  rw [this, Bool.and_false]
theorem climbB_good {S : List Bool} {P : List ByteArray} (h : P.length = S.length) (ha : ∀ k (hk : k < P.length), Pl.isSumB P[k] = true) : Pl.climbB S P = true := by
  unfold Pl.climbB
  rw [decide_eq_true h, Bool.true_and, List.all_eq_true]
  intro x hx
  obtain ⟨k, hk, rfl⟩ := List.getElem_of_mem hx
  exact ha k hk
theorem stand_sizes (rs : List ByteArray) (s : Bool) (p : ByteArray) (hz : ∀ r ∈ rs, r.size = 4) : ∀ r ∈ Pl.stand rs s p, r.size = 4 := by
  intro r hr
  unfold Pl.stand at hr
  split at hr
  · simp only [List.mem_map] at hr
    obtain ⟨x, _, rfl⟩ := hr
    rfl
  · rw [List.mem_append] at hr
    rcases hr with hr | hr
    · exact hz r (List.dropLast_subset _ hr)
    · simp only [List.mem_singleton] at hr
      rw [hr]
      rfl
theorem climb_sizes : ∀ (S : List Bool) (P rs : List ByteArray), (∀ r ∈ rs, r.size = 4) → ∀ r ∈ Pl.climb rs S P, r.size = 4 := by
  intro S
  induction S with
  | nil => intro P rs hz; unfold Pl.climb; exact hz
  | cons s S ih =>
    intro P rs hz
    match P with
    | [] => exact hz
    | p :: P => exact ih P _ (stand_sizes rs s p hz)

set_option maxRecDepth 100000 in
set_option maxHeartbeats 4000000 in
theorem tclimb_len (F : Nat) (S : List Bool) (P : List ByteArray) (q p : Option Addr) (sc cap : Nat) (w : World) (h : ¬ P.length = S.length) :
    Calls Tryz.prog 91 #[.pointer (some ⟨F, 0, none⟩), .slice q S.length sc, .slice p P.length cap] w fun e w' => e = .returned (.bool false) ∧ w' = w := by
  have hne : ((P.length : Int) != (S.length : Int)) = true := by rw [bne_iff_ne]; omega
  go_enter Tryz.func91, Tryz.ntmps91
  go_wp2_with fail
  go_ret
  exact ⟨rfl, rfl⟩


/-- What a climb leaves. -/
def ClimbEnd (B F R : Nat) (rs : List ByteArray) (v : Value) (ts : List ByteArray) (S : List Bool) (P : List ByteArray) (w w' : World) : Prop :=
  Below B w w' ∧ (Pl.climbB S P = true → ∃ v', Step B F R (.slice (some ⟨R, 0, none⟩) rs.length rs.length) v v' ((Pl.climb rs S P).map Value.string) (ts ++ Pl.climbT rs S P) w w')

set_option maxRecDepth 100000 in
set_option maxHeartbeats 4000000 in
theorem tclimb_same (B F R : Nat) (rs : List ByteArray) (v : Value) (ts : List ByteArray) (S : List Bool) (P : List ByteArray) (q p : Option Addr) (sc cap : Nat) (w : World) (hn : rs.length = 1 ∨ rs.length = 2) (hB : B ≤ w.heap.size) (hBR : B ≤ R)
    (hF : Fo w B F (.slice (some ⟨R, 0, none⟩) rs.length rs.length) v ts) (hR : Box w R 9 (rs.map Value.string)) (hm : ¬ Mine F v R) (hz : ∀ r ∈ rs, r.size = 4) (hl : ts.length ≤ 200)
    (hS : S.length ≤ 40) (hSr : SRow w q S) (hSR : ∀ g, q = some ⟨g, 0, none⟩ → ¬ (g = R ∨ Mine F v g)) (hPr : Row w p P) (hPR : ∀ b o, P ≠ [] → p = some ⟨b, o, none⟩ → ¬ (b = R ∨ Mine F v b)) (hlen : P.length = S.length) (hsc : S.length ≤ sc) (hsm : sc ≤ 9223372036854775807) :
    Calls Tryz.prog 91 #[.pointer (some ⟨F, 0, none⟩), .slice q S.length sc, .slice p P.length cap] w fun e w' => e = .returned (.bool (Pl.climbB S P)) ∧ ClimbEnd B F R rs v ts S P w w' := by
  have hne : ((S.length : Int) != (S.length : Int)) = false := by simp
  have HG : Hid (∀ (ha : ∀ k (hk : k < P.length), Pl.isSumB P[k] = true), Pl.climbB S P = true) := fun ha => climbB_good hlen ha
  have HBad : Hid (∀ k (hk : k < P.length), Pl.isSumB P[k] = false → Pl.climbB S P = false) := fun k hk h => climbB_bad k hk h
  have HCl : Hid (∀ k, (Pl.climb rs (S.take k) (P.take k)).length = rs.length) := fun k => Pl.climb_length _ _ _ (by omega)
  have HCz : Hid (∀ k, ∀ r ∈ Pl.climb rs (S.take k) (P.take k), r.size = 4) := fun k => climb_sizes _ _ _ hz
  have HCs : Hid (∀ k (h1 : k < S.length) (h2 : k < P.length), Pl.climb rs (S.take (k + 1)) (P.take (k + 1)) = Pl.stand (Pl.climb rs (S.take k) (P.take k)) S[k] P[k]) := fun k h1 h2 => Pl.climb_take S P rs k h1 h2
  have HCe : Hid (∀ k, k = S.length → Pl.climb rs (S.take k) (P.take k) = Pl.climb rs S P) := fun k hk => by rw [List.take_of_length_le (by omega), List.take_of_length_le (by omega)]
  have HTs : Hid (∀ k (h1 : k < S.length) (h2 : k < P.length), Pl.climbT rs (S.take (k + 1)) (P.take (k + 1)) = Pl.climbT rs (S.take k) (P.take k) ++ Pl.standT (Pl.climb rs (S.take k) (P.take k)) S[k] P[k]) := fun k h1 h2 => Pl.climbT_take S P rs k h1 h2
  have HTe : Hid (∀ k, k = S.length → Pl.climbT rs (S.take k) (P.take k) = Pl.climbT rs S P) := fun k hk => by rw [List.take_of_length_le (by omega), List.take_of_length_le (by omega)]
  have HTl : Hid (∀ k, (Pl.climbT rs (S.take k) (P.take k)).length ≤ 80) := fun k => by
    have := Pl.climbT_length (S.take k) (P.take k) rs (by omega) (by omega)
    have h2 : (S.take k).length ≤ S.length := by simp; omega
    omega
  have hb0 : Below w.heap.size w (w.alloc (.cells #[.func (.func 100) #[] #[], .func (.func 101) #[] #[]] 128)) := (Below.refl _ _).alloc (Nat.le_refl _) _
  have HI0 : Hid (Step B F R (.slice (some ⟨R, 0, none⟩) rs.length rs.length) v v ((Pl.climb rs (S.take 0) (P.take 0)).map Value.string) (ts ++ Pl.climbT rs (S.take 0) (P.take 0)) (w.alloc (.cells #[.func (.func 100) #[] #[], .func (.func 101) #[] #[]] 128)) (w.alloc (.cells #[.func (.func 100) #[] #[], .func (.func 101) #[] #[]] 128))) := by
    show Step _ _ _ _ _ _ _ _ _ _
    rw [List.take_zero, List.take_zero, show Pl.climbT rs [] [] = [] from rfl, List.append_nil]
    exact Step.refl (hF.grow hb0) (hR.grow hb0 hR.lt) hm
  have HD0 : Hid (Box (w.alloc (.cells #[.func (.func 100) #[] #[], .func (.func 101) #[] #[]] 128)) w.heap.size 128 [.func (.func 100) #[] #[], .func (.func 101) #[] #[]]) := Box.new w _ _
  have HDR : Hid (¬ (w.heap.size = R ∨ Mine F v w.heap.size)) := by
    rintro (h | h | h)
    · have := hR.lt; omega
    · have := hF.box.lt; omega
    · have := hF.own.lt _ h; omega
  have HP0 : Hid (Row (w.alloc (.cells #[.func (.func 100) #[] #[], .func (.func 101) #[] #[]] 128)) p P) := hPr.grow hb0 (Nat.le_refl _)
  have HS0 : Hid (SRow (w.alloc (.cells #[.func (.func 100) #[] #[], .func (.func 101) #[] #[]] 128)) q S) := hSr.turn (X := fun _ => False) (Turn.of hb0) (fun _ _ hh => hh)
  have HSR : Hid (∀ g, q = some ⟨g, 0, none⟩ → ¬ (g = R ∨ Mine F v g)) := hSR
  have HPR : Hid (∀ b o, P ≠ [] → p = some ⟨b, o, none⟩ → ¬ (b = R ∨ Mine F v b)) := hPR
  have HPz : Hid (∀ s ∈ P, s.size ≤ maxLen) := hPr.size
  have HLn : Hid (P.length = S.length) := hlen
  have HWB : Hid (∀ w', Turn (fun k => k = R ∨ Mine F v k) (w.alloc (.cells #[.func (.func 100) #[] #[], .func (.func 101) #[] #[]] 128)) w' → Below B w w') := fun w' ht => by
    refine (hb0.mono hB).trans (ht.below ?_ (by simp; omega))
    rintro k (rfl | h)
    · exact hBR
    · exact Mine.le hF k h
  have HWS : Hid (∀ v' l' t' w', Step B F R (.slice (some ⟨R, 0, none⟩) rs.length rs.length) v v' l' t' (w.alloc (.cells #[.func (.func 100) #[] #[], .func (.func 101) #[] #[]] 128)) w' → Step B F R (.slice (some ⟨R, 0, none⟩) rs.length rs.length) v v' l' t' w w') := fun v' l' t' w' hs =>
    Step.trans (Step.mk (hF.grow hb0) (hR.grow hb0 hR.lt) hm (Turn.of hb0) (fun _ h => Or.inl h)) hs
  have HBw : Hid (∀ w', Turn (fun k => k = R ∨ Mine F v k) (w.alloc (.cells #[.func (.func 100) #[] #[], .func (.func 101) #[] #[]] 128)) w' → B ≤ w'.heap.size) := fun w' ht => by
    have := ht.size
    simp at this
    omega
  rw [hlen]
  clear hF hR hSr hPr hSR hPR hz
  clear hlen hb0
  go_enter Tryz.func91, Tryz.ntmps91
  go_wp2_with fail
  generalize w.alloc (.cells #[.func (.func 100) #[] #[], .func (.func 101) #[] #[]] 128) = w0 at *
  go_loopw [18] (fun i wr => ∃ (k : Nat) (vk : Value), k ≤ S.length ∧ i = .int .i64 k ∧ Hid (Step B F R (.slice (some ⟨R, 0, none⟩) rs.length rs.length) v vk ((Pl.climb rs (S.take k) (P.take k)).map Value.string) (ts ++ Pl.climbT rs (S.take k) (P.take k)) w0 wr) ∧ Hid (∀ j (hj : j < P.length), j < k → Pl.isSumB P[j] = true)) (fun i _ => S.length - (intOf i).toNat)
  case atStart => exact ⟨0, v, by omega, rfl, HI0, fun j hj h => by omega⟩
  case round =>
    obtain ⟨k, vk, hk, rfl, HB, HA⟩ := hrel
    by_cases hlt : k < S.length
    · have hkP : k < P.length := by rw [HLn.out]; exact hlt
      rcases (HP0.out.turn HB.out.turn HPR.out).cell with h0 | ⟨b, o, rfl, _, hcell⟩
      · rw [h0] at hkP; exact absurd hkP (by simp)
      rcases HS0.out.turn HB.out.turn HSR.out with h0 | ⟨g, rfl, _, hside⟩
      · rw [h0] at hlt; exact absurd hlt (by simp)
      have hck := hcell k hkP
      have hsk := hside k hlt
      have hDr := HD0.out.turn HB.out.turn HDR.out
      have d0 := hDr.cell 0
      have d1 := hDr.cell 1
      have HT : Hid _ := fun w => tis_any P[k] w (HPz.out _ (List.getElem_mem _))
      clear hcell hside
      cases hsum : Pl.isSumB P[k] with
      | false =>
        have HX : Hid _ := HBad.out k hkP hsum
        rw [hsum] at HT
        clear hsum
        generalize P[k] = pk at *
        go_wp2_with fail
        refine (HT.out _).mono ?_
        rintro e w1 ⟨rfl, rfl⟩
        go_wp2_with fail
        go_ret
        refine ⟨ret_bool HX.out.symm, HWB.out _ HB.out.turn, fun h => ?_⟩
        rw [HX.out] at h
        cases h
      | true =>
        have hp4 := Pl.isSumB_four hsum
        have HN : Hid (∀ j (hj : j < P.length), j < k + 1 → Pl.isSumB P[j] = true) := by
          intro j hj hjk
          by_cases hjk2 : j < k
          · exact HA.out j hj hjk2
          · obtain rfl : j = k := by omega
            exact hsum
        rw [hsum] at HT
        clear hsum
        have HE : Hid _ := HCs.out k hlt hkP
        have HET : Hid _ := HTs.out k hlt hkP
        have hcl := HCl.out k
        have htl := HTl.out k
        cases hs : S[k] with
        | false =>
          rw [hs] at hsk HE HET
          have HL : Hid _ := tleft_any B F R (Pl.climb rs (S.take k) (P.take k)) P[k] vk (ts ++ Pl.climbT rs (S.take k) (P.take k)) _ (by rw [hcl]; exact hn) (HBw.out _ HB.out.turn) (by rw [hcl]; exact HB.out.fo) HB.out.roots HB.out.off (HCz.out k) hp4 (by rw [List.length_append]; omega)
          rw [hcl] at HL
          unfold sideV at hsk
          simp only [Bool.false_eq_true, if_false] at hsk
          clear hs hDr
          generalize P[k] = pk at *
          go_wp2_with fail
          refine (HT.out _).mono ?_
          rintro e w1 ⟨rfl, rfl⟩
          go_wp2_with fail
          refine Calls.mono HL.out ?_
          rintro e w2 ⟨rfl, v2, hst⟩
          have HS2 : Hid _ := hst
          clear hst
          go_wp2_with fail
          go_roundw
          case rel => exact ⟨k + 1, v2, by omega, by go_num, by rw [HE.out, HET.out, ← List.append_assoc]; exact HB.out.trans HS2.out, HN⟩
          case measure => simp [intOf]; omega
        | true =>
          rw [hs] at hsk HE HET
          have HL : Hid _ := tright_all B F R (Pl.climb rs (S.take k) (P.take k)) P[k] vk (ts ++ Pl.climbT rs (S.take k) (P.take k)) _ (by rw [hcl]; omega) (HBw.out _ HB.out.turn) (by rw [hcl]; exact HB.out.fo) HB.out.roots HB.out.off (HCz.out k) hp4 (by rw [List.length_append]; omega)
          rw [hcl] at HL
          unfold sideV at hsk
          simp only [if_true] at hsk
          clear hs hDr
          generalize P[k] = pk at *
          go_wp2_with fail
          refine (HT.out _).mono ?_
          rintro e w1 ⟨rfl, rfl⟩
          go_wp2_with fail
          refine Calls.mono HL.out ?_
          rintro e w2 ⟨rfl, v2, hst⟩
          have HS2 : Hid _ := hst
          clear hst
          go_wp2_with fail
          go_roundw
          case rel => exact ⟨k + 1, v2, by omega, by go_num, by rw [HE.out, HET.out, ← List.append_assoc]; exact HB.out.trans HS2.out, HN⟩
          case measure => simp [intOf]; omega
    · have HX : Hid _ := HG.out fun j hj => HA.out j hj (by have := HLn.out; omega)
      have HY : Hid _ := HCe.out k (by omega)
      have HZ : Hid _ := HTe.out k (by omega)
      go_wp2_with fail
      go_ret
      refine ⟨ret_bool HX.out.symm, HWB.out _ HB.out.turn, fun _ => ⟨vk, HWS.out _ _ _ _ ?_⟩⟩
      rw [← HY.out, ← HZ.out]
      exact HB.out

theorem tclimb_any (B F R : Nat) (rs : List ByteArray) (v : Value) (ts : List ByteArray) (S : List Bool) (P : List ByteArray) (q p : Option Addr) (sc cap : Nat) (w : World) (hn : rs.length = 1 ∨ rs.length = 2) (hB : B ≤ w.heap.size) (hBR : B ≤ R)
    (hF : Fo w B F (.slice (some ⟨R, 0, none⟩) rs.length rs.length) v ts) (hR : Box w R 9 (rs.map Value.string)) (hm : ¬ Mine F v R) (hz : ∀ r ∈ rs, r.size = 4) (hl : ts.length ≤ 200)
    (hS : S.length ≤ 40) (hSr : SRow w q S) (hSR : ∀ g, q = some ⟨g, 0, none⟩ → ¬ (g = R ∨ Mine F v g)) (hPr : Row w p P) (hPR : ∀ b o, P ≠ [] → p = some ⟨b, o, none⟩ → ¬ (b = R ∨ Mine F v b)) (hsc : S.length ≤ sc) (hsm : sc ≤ 9223372036854775807) :
    Calls Tryz.prog 91 #[.pointer (some ⟨F, 0, none⟩), .slice q S.length sc, .slice p P.length cap] w fun e w' => e = .returned (.bool (Pl.climbB S P)) ∧ ClimbEnd B F R rs v ts S P w w' := by
  by_cases h : P.length = S.length
  · exact tclimb_same B F R rs v ts S P q p sc cap w hn hB hBR hF hR hm hz hl hS hSr hSR hPr hPR h hsc hsm
  · refine (tclimb_len F S P q p sc cap w h).mono fun e w' ⟨he, hw⟩ => ?_
    subst hw
    rw [climbB_len h]
    exact ⟨he, Below.refl _ _, fun hh => by rw [climbB_len h] at hh; cases hh⟩

end Go.Proofs.YtkhnjipjbhcgdaaGreat
