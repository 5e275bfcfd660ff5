/-
  THE WALKS of treeheadref.root, treeheadref.Leaves, treehead.mayBeRow; treehead.Root, treeheadref.Root.
-/
import Derived.Test.YtkhnjipjbhcgdaaTree
namespace Go.Proofs.Ytkhnjipjbhcgdaa
open Go.RowKit

theorem below_rsum (s : ByteArray) (l : List UInt8) (w : World) (hs : s.size ≤ maxLen) (hl : s.data.toList = l) :
    Calls Try.prog 17 #[.string s] w fun e w' => e = .returned (.string (Pl.sum l)) ∧ Below w.heap.size w w' :=
  (rsum_of s l w hs hl).mono fun _ _ ⟨he, n, hw⟩ => ⟨he, by rw [hw]; exact below_drewN (Below.refl _ _) n⟩

set_option maxRecDepth 100000 in
set_option maxHeartbeats 400000 in
theorem rroot_zero (p : Option Addr) (cap : Nat) (w : World) :
    Calls Try.prog 53 #[.slice p 0 cap] w fun e w' => e = .returned (.string (Pl.root [])) ∧ Below w.heap.size w w' := by
  go_enter Try.func53, Try.ntmps53
  go_wp2_with fail
  refine (below_rsum _ [69] _ (by decide) rfl).mono ?_
  rintro e w1 ⟨rfl, hb⟩
  go_wp2_with fail
  go_ret
  exact ⟨rfl, hb⟩

set_option maxRecDepth 100000 in
set_option maxHeartbeats 400000 in
theorem rroot_one (b o cap : Nat) (s : ByteArray) (w : World) (hc : w.cell? ⟨b, o, none⟩ = some (.string s)) (hs : s.size ≤ 30) :
    Calls Try.prog 53 #[.slice (some ⟨b, o, none⟩) 1 cap] w fun e w' => e = .returned (.string (Pl.root [s])) ∧ Below w.heap.size w w' := by
  have HZ : Hid ((⟨#[76]⟩ ++ s : ByteArray).size ≤ maxLen) := by
    show _ ≤ _
    rw [ByteArray.size_append]
    show 1 + s.size ≤ 9223372036854775807
    omega
  have HQ : Hid ((⟨#[76]⟩ ++ s : ByteArray).data.toList = Pl.cat [⟨#[76]⟩, s]) := by show _ = _; simp [ByteArray.data_append, Pl.cat]
  go_enter Try.func53, Try.ntmps53
  go_wp2_with fail
  refine (below_rsum _ _ _ HZ.out HQ.out).mono ?_
  rintro e w1 ⟨rfl, hb⟩
  go_wp2_with fail
  go_ret
  exact ⟨rfl, hb⟩

set_option maxRecDepth 100000 in
set_option maxHeartbeats 1000000 in
theorem rroot_many (b o cap : Nat) (ss : List ByteArray) (w : World) (h2 : 2 ≤ ss.length) (h40 : ss.length ≤ 40) (hcap : ss.length ≤ cap) (hcm : cap ≤ 9223372036854775807) (hr : Row w (some ⟨b, o, none⟩) ss)
    (ih : ∀ (p : Option Addr) (cap : Nat) (ss' : List ByteArray) (w : World), ss'.length < ss.length → ss'.length ≤ cap → cap ≤ 9223372036854775807 → Row w p ss' → (∀ s ∈ ss', s ∈ ss) →
      Calls Try.prog 53 #[.slice p ss'.length cap] w fun e w' => e = .returned (.string (Pl.root ss')) ∧ Below w.heap.size w w') :
    Calls Try.prog 53 #[.slice (some ⟨b, o, none⟩) ss.length cap] w fun e w' => e = .returned (.string (Pl.root ss)) ∧ Below w.heap.size w w' := by
  have hp := Pl.half_pos ss.length
  have hl := Pl.half_lt ss.length h2
  have e1 : (ss.take (Pl.half ss.length)).length = Pl.half ss.length := by rw [List.length_take]; omega
  have e2 : (ss.drop (Pl.half ss.length)).length = ss.length - Pl.half ss.length := by rw [List.length_drop]
  have HS : Hid _ := fun w => below_any ss.length w h2 (by omega)
  have HA : Hid (∀ w, Row w (some ⟨b, o, none⟩) ss → Calls Try.prog 53 #[.slice (some ⟨b, o, none⟩) (Pl.half ss.length) cap] w fun e w' => e = .returned (.string (Pl.root (ss.take (Pl.half ss.length)))) ∧ Below w.heap.size w w') := by
    intro w hr
    have := ih (some ⟨b, o, none⟩) cap (ss.take (Pl.half ss.length)) w (by rw [e1]; exact hl) (by rw [e1]; omega) hcm (hr.take _) (fun s hs => List.mem_of_mem_take hs)
    rwa [e1] at this
  have HB : Hid (∀ w, Row w (some ⟨b, o, none⟩) ss → Calls Try.prog 53 #[.slice (some ⟨b, o + Pl.half ss.length, none⟩) (ss.length - Pl.half ss.length) (cap - Pl.half ss.length)] w fun e w' => e = .returned (.string (Pl.root (ss.drop (Pl.half ss.length)))) ∧ Below w.heap.size w w') := by
    intro w hr
    have := ih (some ⟨b, o + Pl.half ss.length, none⟩) (cap - Pl.half ss.length) (ss.drop (Pl.half ss.length)) w (by omega) (by omega) (by omega) (hr.drop _) (fun s hs => List.mem_of_mem_drop hs)
    rwa [e2] at this
  have HE : Hid _ := Pl.root_more ss h2
  have HR : Hid _ := hr
  have hne1 : ((ss.length : Int) == 0) = false := beq_eq_false_iff_ne.2 (by omega)
  have hne2 : ((ss.length : Int) == 1) = false := beq_eq_false_iff_ne.2 (by omega)
  clear hr ih e1 e2
  generalize Pl.half ss.length = k at *
  have z1 := Pl.root_size (ss.take k)
  have z2 := Pl.root_size (ss.drop k)
  generalize Pl.root (ss.take k) = r1 at *
  generalize Pl.root (ss.drop k) = r2 at *
  have hz : (⟨#[78]⟩ ++ r1 ++ r2 : ByteArray).size ≤ maxLen := by
    rw [ByteArray.size_append, ByteArray.size_append, z1, z2]
    decide
  have hq : (⟨#[78]⟩ ++ r1 ++ r2 : ByteArray).data.toList = 78 :: (r1.data.toList ++ r2.data.toList) := by simp [ByteArray.data_append]
  have HZ : Hid _ := hz
  have HQ : Hid _ := hq
  have z1' : r1.size ≤ 4 := by omega
  have z2' : r2.size ≤ 4 := by omega
  clear hz hq z1 z2
  go_enter Try.func53, Try.ntmps53
  go_wp2_with fail
  refine (HS.out _).mono ?_
  rintro e w1 ⟨rfl, rfl⟩
  go_wp2_with fail
  refine (HA.out _ HR.out).mono ?_
  rintro e w2 ⟨rfl, hb2⟩
  go_wp2_with fail
  refine (HB.out _ (HR.out.grow hb2 (Nat.le_refl _))).mono ?_
  rintro e w3 ⟨rfl, hb3⟩
  go_wp2_with fail
  refine (below_rsum _ _ _ HZ.out HQ.out).mono ?_
  rintro e w4 ⟨rfl, hb4⟩
  go_wp2_with fail
  go_ret
  rw [HE.out]
  have k1 := hb2.trans (hb3.mono hb2.size)
  exact ⟨rfl, k1.trans (hb4.mono k1.size)⟩

theorem rroot_any : ∀ (n : Nat) (p : Option Addr) (cap : Nat) (ss : List ByteArray) (w : World), ss.length ≤ n → ss.length ≤ 40 → ss.length ≤ cap → cap ≤ 9223372036854775807 → Row w p ss → (∀ s ∈ ss, s.size ≤ 30) →
    Calls Try.prog 53 #[.slice p ss.length cap] w fun e w' => e = .returned (.string (Pl.root ss)) ∧ Below w.heap.size w w' := by
  intro n
  induction n with
  | zero =>
    intro p cap ss w h _ _ _ _ _
    obtain rfl : ss = [] := List.eq_nil_of_length_eq_zero (by omega)
    exact rroot_zero p cap w
  | succ n ih =>
    intro p cap ss w h h40 hc hm hr hs
    rcases hr.cell with rfl | ⟨b, o, rfl, hb, hcell⟩
    · exact rroot_zero p cap w
    · by_cases h1 : ss.length = 1
      · obtain ⟨s, rfl⟩ := List.length_eq_one_iff.1 h1
        exact rroot_one b o cap s w (hcell 0 (by omega)) (hs s (by simp))
      · by_cases h0 : ss.length = 0
        · obtain rfl : ss = [] := List.eq_nil_of_length_eq_zero h0
          exact rroot_zero _ cap w
        · exact rroot_many b o cap ss w (by omega) h40 hc hm hr (fun p cap ss' w hl hc hm hr hmem => ih p cap ss' w (by omega) (by omega) hc hm hr (fun s h => hs s (hmem s h)))

end Go.Proofs.Ytkhnjipjbhcgdaa
