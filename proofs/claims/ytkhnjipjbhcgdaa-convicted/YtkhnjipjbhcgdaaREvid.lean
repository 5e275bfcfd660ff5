/-
  THE WALK of treeheadref.Evidence.
-/
import Derived.Test.YtkhnjipjbhcgdaaROpen2
namespace Go.Proofs.Ytkhnjipjbhcgdaa
open Go.RowKit

theorem open_size {key : Int} {b : ByteArray} (h : openE key b = 0) : b.size = 11 := by
  unfold openE at h
  split at h
  · cases h
  · split at h
    · cases h
    · rename_i _ hh
      exact (headB_facts (by simpa using hh)).1

set_option maxRecDepth 100000 in
set_option maxHeartbeats 2000000 in
theorem revid_any (key : Int) (one two : ByteArray) (w : World) :
    Calls Try.prog 38 #[.int .i64 key, .string one, .string two] w fun e w' => e = .returned (.tuple #[.string (evid key one two).1, .int .i64 (evid key one two).2]) ∧ Below w.heap.size w w' := by
  have hA := fun w => ropen_any key one w
  have hB := fun w => ropen_any key two w
  by_cases h1 : openE key one = 0
  · by_cases h2 : openE key two = 0
    · have z1 := open_size h1
      have z2 := open_size h2
      have HE : Hid (evid key one two = if ¬ openSize key one = openSize key two then (⟨#[]⟩, 9) else if openRoot key one = openRoot key two then (⟨#[]⟩, 8) else if Op.bytesLess (openRoot key one).toList (openRoot key two).toList = true then (textV one two, 0) else (textV two one, 0)) := by
        show _ = _
        unfold evid
        rw [if_neg (by simpa using h1), if_neg (by simpa using h2)]
      rw [h1] at hA
      rw [h2] at hB
      have HT : Hid (∀ a b, textV a b = ⟨#[86]⟩ ++ a ++ b) := fun _ _ => rfl
      clear h1 h2
      generalize openSize key one = n1 at *
      generalize openSize key two = n2 at *
      generalize openRoot key one = r1 at *
      generalize openRoot key two = r2 at *
      by_cases hn : n1 = n2
      · by_cases hr : r1 = r2
        · subst hn hr
          have HX : Hid (evid key one two = (⟨#[]⟩, 8)) := by show _ = _; rw [HE.out]; simp
          rw [HX.out]
          clear HE
          have hd : ((n1 : Int) != (n1 : Int)) = false := by simp
          go_enter Try.func38, Try.ntmps38
          go_wp2_with fail
          refine (hA _).mono ?_
          rintro e w1 ⟨rfl, hb1⟩
          go_wp2_with fail
          refine (hB _).mono ?_
          rintro e w2 ⟨rfl, hb2⟩
          obtain ⟨q0, q1, hz⟩ := box2 hb2
          have k2 : Below w.heap.size w w2 := (hb1.alloc hb1.size _).trans (hb2.mono (by have := hb1.size; simp; omega))
          clear hb1 hb2
          go_wp2_with fail
          go_ret2
          exact ⟨rfl, k2.alloc k2.size _⟩
        · subst hn
          have hd : ((n1 : Int) != (n1 : Int)) = false := by simp
          have hne := str_ne hr
          cases hl : Op.bytesLess r1.toList r2.toList with
          | true =>
            have HX : Hid (evid key one two = (textV one two, 0)) := by show _ = _; rw [HE.out]; simp [hr, hl]
            rw [HX.out]
            clear HE hr
            go_enter Try.func38, Try.ntmps38
            go_wp2_with fail
            refine (hA _).mono ?_
            rintro e w1 ⟨rfl, hb1⟩
            go_wp2_with fail
            refine (hB _).mono ?_
            rintro e w2 ⟨rfl, hb2⟩
            obtain ⟨q0, q1, hz⟩ := box2 hb2
            have k2 : Below w.heap.size w w2 := (hb1.alloc hb1.size _).trans (hb2.mono (by have := hb1.size; simp; omega))
            clear hb1 hb2
            go_wp2_with fail
            go_ret2
            exact ⟨rfl, k2.alloc k2.size _⟩
          | false =>
            have HX : Hid (evid key one two = (textV two one, 0)) := by show _ = _; rw [HE.out]; simp [hr, hl]
            rw [HX.out]
            clear HE hr
            go_enter Try.func38, Try.ntmps38
            go_wp2_with fail
            refine (hA _).mono ?_
            rintro e w1 ⟨rfl, hb1⟩
            go_wp2_with fail
            refine (hB _).mono ?_
            rintro e w2 ⟨rfl, hb2⟩
            obtain ⟨q0, q1, hz⟩ := box2 hb2
            have k2 : Below w.heap.size w w2 := (hb1.alloc hb1.size _).trans (hb2.mono (by have := hb1.size; simp; omega))
            clear hb1 hb2
            go_wp2_with fail
            go_ret2
            exact ⟨rfl, k2.alloc k2.size _⟩
      · have HX : Hid (evid key one two = (⟨#[]⟩, 9)) := by show _ = _; rw [HE.out]; simp [hn]
        have hd : ((n1 : Int) != (n2 : Int)) = true := by rw [bne_iff_ne]; omega
        rw [HX.out]
        clear HE hn
        go_enter Try.func38, Try.ntmps38
        go_wp2_with fail
        refine (hA _).mono ?_
        rintro e w1 ⟨rfl, hb1⟩
        go_wp2_with fail
        refine (hB _).mono ?_
        rintro e w2 ⟨rfl, hb2⟩
        obtain ⟨q0, q1, hz⟩ := box2 hb2
        have k2 : Below w.heap.size w w2 := (hb1.alloc hb1.size _).trans (hb2.mono (by have := hb1.size; simp; omega))
        clear hb1 hb2
        go_wp2_with fail
        go_ret2
        exact ⟨rfl, k2.alloc k2.size _⟩
    · have HX : Hid (evid key one two = (⟨#[]⟩, openE key two)) := by show _ = _; unfold evid; rw [if_neg (by simpa using h1), if_pos h2]
      rw [HX.out]
      rw [h1] at hA
      generalize openE key two = x at *
      have hd : (x != 0) = true := by rw [bne_iff_ne]; exact h2
      clear h1 h2
      go_enter Try.func38, Try.ntmps38
      go_wp2_with fail
      refine (hA _).mono ?_
      rintro e w1 ⟨rfl, hb1⟩
      go_wp2_with fail
      refine (hB _).mono ?_
      rintro e w2 ⟨rfl, hb2⟩
      obtain ⟨q0, q1, hz⟩ := box2 hb2
      have k2 : Below w.heap.size w w2 := (hb1.alloc hb1.size _).trans (hb2.mono (by have := hb1.size; simp; omega))
      clear hb1 hb2
      go_wp2_with fail
      go_ret2
      exact ⟨rfl, k2.alloc k2.size _⟩
  · have HX : Hid (evid key one two = (⟨#[]⟩, openE key one)) := by show _ = _; unfold evid; rw [if_pos h1]
    rw [HX.out]
    generalize openE key one = x at *
    have hd : (x != 0) = true := by rw [bne_iff_ne]; exact h1
    clear h1 hB
    go_enter Try.func38, Try.ntmps38
    go_wp2_with fail
    refine (hA _).mono ?_
    rintro e w1 ⟨rfl, hb1⟩
    go_wp2_with fail
    go_ret2
    exact ⟨rfl, hb1.alloc hb1.size _⟩

end Go.Proofs.Ytkhnjipjbhcgdaa
