import Derived.Test.YtkhnjipjbhcgdabTree
/-
  THE WALKS of treeheadref.root, treeheadref.Leaves, treehead.mayBeRow; treehead.Root, treeheadref.Root.
-/
namespace Go.Proofs.Ytkhnjipjbhcgdab
open Go.RowKit

end Go.Proofs.Ytkhnjipjbhcgdab

/-
  THE WALKS of treehead.mayBeRow, treeheadref.Leaves, treehead.Root, treeheadref.Root.
-/
namespace Go.Proofs.Ytkhnjipjbhcgdab
open Go.RowKit

/-- May texts be leaves, and are they not too many? -/
def okB (ss : List ByteArray) : Bool := decide (ss.length ≤ 40) && ss.all fun s => decide (s.size ≤ 30)
theorem okB_yes {ss : List ByteArray} (h : okB ss = true) : ss.length ≤ 40 ∧ ∀ s ∈ ss, s.size ≤ 30 := by
  simp only [okB, Bool.and_eq_true, decide_eq_true_eq, List.all_eq_true] at h
  exact h
theorem okB_mk {ss : List ByteArray} (h : ss.length ≤ 40) (h2 : ∀ s ∈ ss, s.size ≤ 30) : okB ss = true := by
  simp only [okB, Bool.and_eq_true, decide_eq_true_eq, List.all_eq_true]
  exact ⟨h, h2⟩
theorem okB_many {ss : List ByteArray} (h : ¬ ss.length ≤ 40) : okB ss = false := by
  simp [okB, h]
theorem okB_long {ss : List ByteArray} (k : Nat) (hk : k < ss.length) (h : ¬ ss[k].size ≤ 30) : okB ss = false := by
  cases hb : okB ss with
  | false => rfl
  | true => exact absurd ((okB_yes hb).2 ss[k] (List.getElem_mem _)) h
theorem all_step {ss : List ByteArray} {k : Nat} (hk : k < ss.length) (h : ∀ s ∈ ss.take k, s.size ≤ 30) (h2 : ss[k].size ≤ 30) : ∀ s ∈ ss.take (k + 1), s.size ≤ 30 := by
  intro s hs
  rw [List.take_succ_eq_append_getElem hk, List.mem_append, List.mem_singleton] at hs
  rcases hs with h1 | rfl
  · exact h s h1
  · exact h2

set_option maxRecDepth 100000 in
set_option maxHeartbeats 400000 in
theorem leaf_any (s : ByteArray) (w : World) : Calls Try.prog 59 #[.string s] w fun e w' => e = .returned (.bool (decide ((s.size : Int) ≤ 30))) ∧ w' = w := by
  go_enter Try.func59, Try.ntmps59
  go_wp2
  go_ret
  exact ⟨rfl, rfl⟩

theorem ret_bool {a b : Bool} (h : a = b) : Ending.returned (.bool a) = .returned (.bool b) := by rw [h]

set_option maxRecDepth 100000 in
set_option maxHeartbeats 1000000 in
theorem may_any (p : Option Addr) (cap : Nat) (ss : List ByteArray) (w : World) (hr : Row w p ss) :
    Calls Try.prog 39 #[.slice p ss.length cap] w fun e w' => e = .returned (.bool (okB ss)) ∧ w' = w := by
  have hlen : ss.length ≤ 9223372036854775807 := hr.len
  by_cases h40 : ss.length ≤ 40
  · have HR : Hid _ := hr
    clear hr
    go_enter Try.func39, Try.ntmps39
    go_wp2_with fail
    go_loop [10] (fun i => ∃ k : Nat, k ≤ ss.length ∧ i = .int .i64 k ∧ Hid (∀ s ∈ ss.take k, s.size ≤ 30)) (fun i => ss.length - (intOf i).toNat)
    case atStart => exact ⟨0, by omega, rfl, fun s hs => by simp at hs⟩
    case round =>
      obtain ⟨k, hk, rfl, HA⟩ := hrel
      by_cases hlt : k < ss.length
      · rcases HR.out.cell with h0 | ⟨b, o, h1, _, hcell⟩
        · rw [h0] at hlt; exact absurd hlt (by simp)
        · have hck := hcell k hlt
          subst h1
          clear hcell
          have hleaf := leaf_any ss[k]
          by_cases hs : ss[k].size ≤ 30
          · have HT : Hid _ := all_step hlt HA.out hs
            rw [show decide ((ss[k].size : Int) ≤ 30) = true from decide_eq_true (by omega)] at hleaf
            generalize ss[k] = s at *
            go_wp2_with fail
            refine (hleaf _).mono ?_
            rintro e w1 ⟨rfl, rfl⟩
            go_wp2_with fail
            go_round
            case rel => exact ⟨k + 1, by omega, by go_num, HT⟩
            case measure => simp [intOf]; omega
          · have HF : Hid _ := okB_long k hlt hs
            rw [show decide ((ss[k].size : Int) ≤ 30) = false from decide_eq_false (by omega)] at hleaf
            generalize ss[k] = s at *
            go_wp2_with fail
            refine (hleaf _).mono ?_
            rintro e w1 ⟨rfl, rfl⟩
            go_wp2_with fail
            go_ret
            exact ⟨ret_bool HF.out.symm, rfl⟩
      · have HT : Hid _ := okB_mk h40 (by have h := HA.out; rwa [List.take_of_length_le (by omega)] at h)
        go_wp2_with fail
        go_ret
        exact ⟨ret_bool HT.out.symm, rfl⟩
  · have HF : Hid _ := okB_many h40
    clear hr
    go_enter Try.func39, Try.ntmps39
    go_wp2_with fail
    go_ret
    exact ⟨ret_bool HF.out.symm, rfl⟩

/-- What Root answers. -/
def rootAns (ss : List ByteArray) : Value := if okB ss = true then .tuple #[.string (Pl.root ss), .int .i64 0] else .tuple #[.string ⟨#[]⟩, .int .i64 1]
theorem rootAns_yes {ss : List ByteArray} (h : okB ss = true) : rootAns ss = .tuple #[.string (Pl.root ss), .int .i64 0] := by simp [rootAns, h]
theorem rootAns_no {ss : List ByteArray} (h : okB ss = false) : rootAns ss = .tuple #[.string ⟨#[]⟩, .int .i64 1] := by simp [rootAns, h]

set_option maxRecDepth 100000 in
set_option maxHeartbeats 1000000 in
theorem troot_any (p : Option Addr) (cap : Nat) (ss : List ByteArray) (w : World) (hc : ss.length ≤ cap) (hm : cap ≤ 9223372036854775807) (hr : Row w p ss) :
    Calls Try.prog 24 #[.slice p ss.length cap] w fun e w' => e = .returned (rootAns ss) ∧ Below w.heap.size w w' := by
  have hmay := may_any p cap ss w hr
  cases hok : okB ss with
  | true =>
    rw [rootAns_yes hok]
    rw [hok] at hmay
    go_enter Try.func24, Try.ntmps24
    go_wp2_with fail
    refine hmay.mono ?_
    rintro e w1 ⟨rfl, rfl⟩
    go_wp2_with fail
    refine (root_any ss.length p cap ss _ (Nat.le_refl _) (okB_yes hok).1 hc hm hr).mono ?_
    rintro e w2 ⟨rfl, hb⟩
    go_wp2_with fail
    go_ret2
    exact ⟨rfl, hb⟩
  | false =>
    rw [rootAns_no hok]
    rw [hok] at hmay
    go_enter Try.func24, Try.ntmps24
    go_wp2_with fail
    refine hmay.mono ?_
    rintro e w1 ⟨rfl, rfl⟩
    go_wp2_with fail
    go_ret2
    exact ⟨rfl, Below.refl _ _⟩

end Go.Proofs.Ytkhnjipjbhcgdab
