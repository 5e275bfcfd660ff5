import Derived.Test.YtkhnjipjbhcgdabAns3
import Derived.Test.YtkhnjipjbhcgdabTTurn
/-
  THE PLAIN MATHEMATICS: the first two texts of one sum, looked for forwards alone.
-/
namespace Go.Proofs.Ytkhnjipjbhcgdab.Pl

/-- The first text that has the sum of a different one behind it, and the first such one. -/
def later : List ByteArray → Option (ByteArray × ByteArray)
  | [] => none
  | s :: r => match mate r s with
    | some t => some (s, t)
    | none => later r
theorem mate_skip (A r : List ByteArray) (s : ByteArray) (hA : ∀ a ∈ A, mate (A ++ s :: r) a = none) : mate (A ++ s :: r) s = mate r s := by
  unfold mate
  rw [List.find?_append]
  have h1 : A.find? (fun t => decide (¬ s = t ∧ numB s = numB t)) = none := by
    rw [List.find?_eq_none]
    intro a ha
    have := mate_none (hA a ha) s (by simp)
    simp only [decide_eq_true_eq, not_and]
    intro hne he
    exact hne (this he.symm).symm
  have h2 : (s :: r).find? (fun t => decide (¬ s = t ∧ numB s = numB t)) = r.find? (fun t => decide (¬ s = t ∧ numB s = numB t)) := by
    rw [List.find?_cons_of_neg (by simp)]
  rw [h1, h2]
  rfl
theorem clashF_later : ∀ (S A : List ByteArray), (∀ a ∈ A, mate (A ++ S) a = none) → clashF (A ++ S) S = later S := by
  intro S
  induction S with
  | nil => intro A _; rfl
  | cons s r ih =>
    intro A hA
    have hm := mate_skip A r s hA
    unfold clashF later
    rw [List.findSome?_cons, hm]
    cases hx : mate r s with
    | some t => rfl
    | none =>
      have := ih (A ++ [s]) (by
        intro a ha
        rw [List.append_assoc, List.singleton_append]
        rcases List.mem_append.1 ha with h | h
        · exact hA a h
        · rw [List.mem_singleton.1 h, hm]
          exact hx)
      rw [List.append_assoc, List.singleton_append] at this
      exact this
theorem clashF_all (T : List ByteArray) : clashF T T = later T := by
  have := clashF_later T [] (by simp)
  simpa using this
theorem later_drop (T : List ByteArray) (k : Nat) (h : k < T.length) : later (T.drop k) = match mate (T.drop (k + 1)) T[k] with | some t => some (T[k], t) | none => later (T.drop (k + 1)) := by
  rw [List.drop_eq_getElem_cons h]
  rfl
theorem mate_drop (T : List ByteArray) (s : ByteArray) (j : Nat) (h : j < T.length) : mate (T.drop j) s = if ¬ s = T[j] ∧ numB s = numB T[j] then some T[j] else mate (T.drop (j + 1)) s := by
  rw [List.drop_eq_getElem_cons h]
  unfold mate
  rw [List.find?_cons]
  by_cases hc : ¬ s = T[j] ∧ numB s = numB T[j]
  · rw [if_pos hc, decide_eq_true hc]
  · rw [if_neg hc, decide_eq_false hc]
theorem mate_end (T : List ByteArray) (s : ByteArray) (j : Nat) (h : T.length ≤ j) : mate (T.drop j) s = none := by
  rw [List.drop_eq_nil_of_le h]
  rfl
theorem later_end (T : List ByteArray) (j : Nat) (h : T.length ≤ j) : later (T.drop j) = none := by
  rw [List.drop_eq_nil_of_le h]
  rfl
/-- What is answered. -/
def pairOf : Option (ByteArray × ByteArray) → ByteArray × ByteArray
  | some x => x
  | none => (⟨#[]⟩, ⟨#[]⟩)
end Go.Proofs.Ytkhnjipjbhcgdab.Pl

/-
  THE WALK of sums.Clash.
-/
namespace Go.Proofs.Ytkhnjipjbhcgdab
open Go.RowKit

theorem bytes_ne2 {a b : ByteArray} (h : ¬ a = b) : (a.toList == b.toList) = false := by
  rw [beq_eq_false_iff_ne]
  intro he
  apply h
  have h1 : a.data.toList = b.data.toList := by rwa [Go.ByteArray.toList_eq, Go.ByteArray.toList_eq] at he
  exact ByteArray.ext (Array.ext' h1)
/-- sums.Number of one text, laid anew. -/
theorem num_one (s : ByteArray) (w : World) (hs : s.size ≤ maxLen) :
    Calls Try.prog 52 #[.slice (some ⟨w.heap.size, 0, none⟩) 1 1] (w.alloc (.cells #[.string s] 9)) fun e w' => e = .returned (.int .i64 (Pl.numB s : Nat)) ∧ w' = w.alloc (.cells #[.string s] 9) := by
  have h := number_any (some ⟨w.heap.size, 0, none⟩) 1 [s] (w.alloc (.cells #[.string s] 9)) (Hp.row_lit w [s] (by simp [maxLen]) (by intro x hx; rw [List.mem_singleton.1 hx]; exact hs))
  have hc : Pl.cat [s] = s.data.toList := by simp [Pl.cat]
  rw [hc] at h
  exact h

/-- The same, behind the other text. -/
theorem num_two (t s : ByteArray) (w : World) (hs : s.size ≤ maxLen) :
    Calls Try.prog 52 #[.slice (some ⟨w.heap.size + 1, 0, none⟩) 1 1] ((w.alloc (.cells #[.string t] 9)).alloc (.cells #[.string s] 9)) fun e w' => e = .returned (.int .i64 (Pl.numB s : Nat)) ∧ w' = (w.alloc (.cells #[.string t] 9)).alloc (.cells #[.string s] 9) := by
  have h := num_one s (w.alloc (.cells #[.string t] 9)) hs
  rwa [show (w.alloc (.cells #[.string t] 9)).heap.size = w.heap.size + 1 by simp] at h
theorem num_lt (s : ByteArray) : Pl.numB s < 65521 := Pl.num_lt _

set_option maxRecDepth 100000 in
set_option maxHeartbeats 4000000 in
theorem tsclash_any (b o cap : Nat) (T : List ByteArray) (w : World) (hr : Row w (some ⟨b, o, none⟩) T) (hc : T.length ≤ cap) (hcm : cap ≤ 9223372036854775807) (hl : T.length ≤ 4000) :
    Calls Try.prog 50 #[.slice (some ⟨b, o, none⟩) T.length cap] w fun e w' => e = .returned (.tuple #[.string (Pl.pairOf (Pl.later T)).1, .string (Pl.pairOf (Pl.later T)).2]) ∧ Below w.heap.size w w' := by
  have HR : Hid _ := hr
  have HZ : Hid _ := hr.size
  have H0 : Hid (Pl.later T = Pl.later (T.drop 0)) := by show _ = _; rw [List.drop_zero]
  clear hr
  go_enter Try.func50, Try.ntmps50
  go_wp2_with fail
  go_loopw [10] (fun i wr => ∃ k : Nat, k ≤ T.length ∧ i = .int .i64 k ∧ Hid (Pl.later T = Pl.later (T.drop k)) ∧ Hid (Below w.heap.size w wr)) (fun i _ => T.length - (intOf i).toNat)
  case atStart => exact ⟨0, by omega, rfl, H0, Below.refl _ _⟩
  case round =>
    obtain ⟨k, hk, rfl, HL, HB⟩ := hrel
    by_cases hlt : k < T.length
    · rcases (HR.out.grow HB.out (Nat.le_refl _)).cell with h0 | ⟨b', o', he, _, hcell⟩
      · rw [h0] at hlt; exact absurd hlt (by simp)
      simp only [Option.some.injEq, Addr.mk.injEq, and_true] at he
      obtain ⟨rfl, rfl⟩ := he
      have hck := hcell k hlt
      have HD : Hid _ := Pl.later_drop T k hlt
      have HZk : Hid _ := HZ.out _ (List.getElem_mem hlt)
      have hk1 : k + 1 ≤ T.length := by omega
      have hk2 : k + 1 ≤ cap := by omega
      clear hcell
      generalize hs : T[k] = s at *
      clear hs
      by_cases hcap : cap = k + 1
      · subst hcap
        go_wp2_with fail
        go_loopw [20] (fun i wj => ∃ j : Nat, j + (k + 1) ≤ T.length ∧ i = .int .i64 j ∧ Hid (Pl.mate (T.drop (k + 1)) s = Pl.mate (T.drop (k + 1 + j)) s) ∧ Hid (Below w.heap.size w wj)) (fun i _ => T.length - (k + 1) - (intOf i).toNat)
        case atStart => exact ⟨0, by omega, rfl, rfl, HB⟩
        case round =>
          obtain ⟨j, hj, rfl, HM, HJ⟩ := hrel
          by_cases hlt2 : j + (k + 1) < T.length
          · exfalso
            omega
          · have HX : Hid _ := Pl.mate_end T s (k + 1 + j) (by omega)
            have HN : Hid (Pl.later T = Pl.later (T.drop (k + 1))) := by
              show _ = _
              rw [HL.out, HD.out, HM.out, HX.out]
            have hnl : ¬ ((j : Int) < (T.length : Int) - ((k : Int) + 1)) := by omega
            go_wp2_with fail
            go_roundw
            case rel => exact ⟨k + 1, by omega, by go_num, HN, HJ⟩
            case measure => simp [intOf]; omega
      · go_wp2_with fail
        go_loopw [20] (fun i wj => ∃ j : Nat, j + (k + 1) ≤ T.length ∧ i = .int .i64 j ∧ Hid (Pl.mate (T.drop (k + 1)) s = Pl.mate (T.drop (k + 1 + j)) s) ∧ Hid (Below w.heap.size w wj)) (fun i _ => T.length - (k + 1) - (intOf i).toNat)
        case atStart => exact ⟨0, by omega, rfl, rfl, HB⟩
        case round =>
          obtain ⟨j, hj, rfl, HM, HJ⟩ := hrel
          by_cases hlt2 : j + (k + 1) < T.length
          · have hjT : k + 1 + j < T.length := by omega
            rcases (HR.out.grow HJ.out (Nat.le_refl _)).cell with h0 | ⟨b', o', he, _, hcell⟩
            · rw [h0] at hlt; exact absurd hlt (by simp)
            simp only [Option.some.injEq, Addr.mk.injEq, and_true] at he
            obtain ⟨rfl, rfl⟩ := he
            have hcj := hcell (k + 1 + j) hjT
            rw [show o + (k + 1 + j) = o + (k + 1) + j by omega] at hcj
            have HMd : Hid _ := Pl.mate_drop T s (k + 1 + j) hjT
            have HZj : Hid _ := HZ.out _ (List.getElem_mem hjT)
            have hlt3 : (j : Int) < (T.length : Int) - ((k : Int) + 1) := by omega
            clear hcell
            generalize T[k + 1 + j] = t at *
            by_cases hts : t = s
            · have HN : Hid (Pl.mate (T.drop (k + 1)) s = Pl.mate (T.drop (k + 1 + (j + 1))) s) := by
                show _ = _
                rw [HM.out, HMd.out, if_neg (fun h => h.1 hts.symm)]
                rfl
              subst hts
              go_wp2_with fail
              go_roundw
              case rel => exact ⟨j + 1, by omega, by go_num, HN, HJ⟩
              case measure => simp [intOf]; omega
            · have hne := bytes_ne2 hts
              have hsj := HJ.out.size
              have HN1 : Hid _ := fun w => num_one t w HZj.out
              have HN2 : Hid _ := fun w => num_two t s w HZk.out
              have hn1 := num_lt t
              have hn2 := num_lt s
              by_cases hnum : Pl.numB s = Pl.numB t
              · have HX : Hid (Pl.later T = some (s, t)) := by
                  show _ = _
                  rw [HL.out, HD.out, HM.out, HMd.out, if_pos ⟨fun h => hts h.symm, hnum⟩]
                rw [hnum] at HN2
                generalize Pl.numB t = N at *
                go_wp2_with fail
                refine (HN1.out _).mono ?_
                rintro e w1 ⟨rfl, rfl⟩
                go_wp2_with fail
                refine (HN2.out _).mono ?_
                rintro e w2 ⟨rfl, rfl⟩
                go_wp2_with fail
                refine bodyPost_ret (v := .tuple #[.string s, .string t]) (by simp [results, Try.results50, go_sem]) rfl ⟨?_, (HJ.out.alloc hsj _).alloc (by simp; omega) _⟩
                rw [HX.out]
                rfl
              · have HN : Hid (Pl.mate (T.drop (k + 1)) s = Pl.mate (T.drop (k + 1 + (j + 1))) s) := by
                  show _ = _
                  rw [HM.out, HMd.out, if_neg (fun h => hnum h.2)]
                  rfl
                generalize Pl.numB t = N1 at *
                generalize Pl.numB s = N2 at *
                have hnn : ¬ ((N1 : Int) = (N2 : Int)) := by omega
                go_wp2_with fail
                refine (HN1.out _).mono ?_
                rintro e w1 ⟨rfl, rfl⟩
                go_wp2_with fail
                refine (HN2.out _).mono ?_
                rintro e w2 ⟨rfl, rfl⟩
                go_wp2_with fail
                go_roundw
                case rel => exact ⟨j + 1, by omega, by go_num, HN, (HJ.out.alloc hsj _).alloc (by simp; omega) _⟩
                case measure => simp [intOf]; omega
          · have HX : Hid _ := Pl.mate_end T s (k + 1 + j) (by omega)
            have HN : Hid (Pl.later T = Pl.later (T.drop (k + 1))) := by
              show _ = _
              rw [HL.out, HD.out, HM.out, HX.out]
            have hnl : ¬ ((j : Int) < (T.length : Int) - ((k : Int) + 1)) := by omega
            go_wp2_with fail
            go_roundw
            case rel => exact ⟨k + 1, by omega, by go_num, HN, HJ⟩
            case measure => simp [intOf]; omega
    · have HX : Hid _ := Pl.later_end T k (by omega)
      go_wp2_with fail
      refine bodyPost_ret (v := .tuple #[.string ⟨#[]⟩, .string ⟨#[]⟩]) (by simp [results, Try.results50, go_sem]) rfl ⟨?_, HB.out⟩
      rw [HL.out, HX.out]
      rfl
end Go.Proofs.Ytkhnjipjbhcgdab
