/-
  THE WALK of treeheadkeep.Rooted.
-/
import Derived.Test.YtkhnjipjbhcgdaaKLeaves
namespace Go.Proofs.Ytkhnjipjbhcgdaa
open Go.RowKit

theorem le_max {n : Nat} (h : n ≤ 40) : n ≤ maxLen := Nat.le_trans h (by decide)
def moreB : ByteArray := ⟨#[109, 111, 114, 101]⟩
/-- How long a slice is. -/
def lenOfV : Value → Nat
  | .slice _ n _ => n
  | _ => 0

theorem sum_to (p : Option Addr) (cap : Nat) (ss : List ByteArray) (c : ByteArray) (w : World) (hr : Row w p ss) (hc : Pl.sum (Pl.cat ss) = c) :
    Calls Try.prog 15 #[.slice p ss.length cap] w fun e w' => e = .returned (.string c) ∧ Below w.heap.size w w' := by
  subst hc
  exact sum_any p cap ss w hr
theorem troot_to (p : Option Addr) (cap n : Nat) (ss : List ByteArray) (r : ByteArray) (w : World) (hn : ss.length = n) (hc : n ≤ cap) (hm : cap ≤ 9223372036854775807) (hr : Row w p ss) (h40 : n ≤ 40) (h30 : ∀ s ∈ ss, s.size ≤ 30) (he : Pl.root ss = r) :
    Calls Try.prog 18 #[.slice p n cap] w fun e w' => e = .returned (.tuple #[.string r, .int .i64 0]) ∧ Below w.heap.size w w' := by
  subst hn he
  have h := troot_any p cap ss w hc hm hr
  rwa [rootAns_yes (okB_mk h40 h30)] at h

/-- What is left of the law, once the row is long enough. -/
structure Rootable (L : List ByteArray) : Prop where
  lo : 32 ≤ L.length
  hi : L.length ≤ 40
  size : ∀ s ∈ L, s.size ≤ 30

theorem pow_cases (q : Nat) (h : q < 5) : 2 ^ q = 1 ∨ 2 ^ q = 2 ∨ 2 ^ q = 4 ∨ 2 ^ q = 8 ∨ 2 ^ q = 16 ∨ 2 ^ q = 32 := by
  have : q = 0 ∨ q = 1 ∨ q = 2 ∨ q = 3 ∨ q = 4 := by omega
  rcases this with rfl | rfl | rfl | rfl | rfl <;> simp

theorem node_eq (L : List ByteArray) (k n : Nat) (hk : k = 1 ∨ k = 2 ∨ k = 4 ∨ k = 8 ∨ k = 16 ∨ k = 32) (h1 : k < n) (h2 : n ≤ 2 * k) (hn : n ≤ L.length) :
    Pl.sum (78 :: ((Pl.root (L.take k)).data.toList ++ (Pl.root ((L.take n).drop k)).data.toList)) = Pl.root (L.take n) := by
  have e : (L.take n).length = n := by rw [List.length_take]; omega
  have h := Pl.root_more (L.take n) (by omega)
  rw [e, Pl.half_of n k hk h1 h2, List.take_take, Nat.min_eq_left (by omega)] at h
  exact h.symm

set_option maxRecDepth 100000 in
set_option maxHeartbeats 2000000 in
theorem rooted_rest (p : Option Addr) (cap : Nat) (ss : List ByteArray) (c1 c2 : Int) (w : World) (hr : Row w p ss) (hc1 : -9223372036854775808 ≤ c1 ∧ c1 ≤ 9223372036854775807) (hc2 : -9223372036854775808 ≤ c2 ∧ c2 ≤ 9223372036854775807) :
    Calls Try.prog 12 #[.slice p ss.length cap, .int .i64 c1, .int .i64 c2] w fun e w' => e = .returned (.bool true) ∧ Below w.heap.size w w' := by
  obtain ⟨i0, hi, hz0, hz1, hz2⟩ := info_parts infoStr
  obtain ⟨q, hq⟩ : ∃ q : Nat, pickOf c1 5 = (q : Int) := Int.eq_ofNat_of_zero_le (pickOf_nonneg c1 5 (by omega))
  have hq5 : q < 5 := by have := pickOf_lt c1 5 (by omega); omega
  have hk := pow_cases q hq5
  have hsh : wrap64 ((2 : Int) ^ q) = ((2 ^ q : Nat) : Int) := by
    have : q = 0 ∨ q = 1 ∨ q = 2 ∨ q = 3 ∨ q = 4 := by omega
    rcases this with rfl | rfl | rfl | rfl | rfl <;> decide +kernel
  have hk16 : 1 ≤ 2 ^ q ∧ 2 ^ q ≤ 16 := ⟨Nat.one_le_two_pow, Nat.le_trans (Nat.pow_le_pow_right (by omega) (show q ≤ 4 by omega)) (by decide)⟩
  generalize 2 ^ q = k at *
  obtain ⟨r, hr2⟩ : ∃ r : Nat, pickOf c2 k = (r : Int) := Int.eq_ofNat_of_zero_le (pickOf_nonneg c2 k (by omega))
  have hrk : r < k := by have := pickOf_lt c2 k (by omega); omega
  have HP1 : Hid (∀ w, Calls Try.prog 42 #[.int .i64 c1, .int .i64 5] w fun e w' => e = .returned (.int .i64 q) ∧ w' = w) := by
    intro w
    have := pick_any c1 5 w hc1 (by omega) (by omega)
    rwa [hq] at this
  have HP2 : Hid (∀ w, Calls Try.prog 42 #[.int .i64 c2, .int .i64 k] w fun e w' => e = .returned (.int .i64 r) ∧ w' = w) := by
    intro w
    have := pick_any c2 k w hc2 (by omega) (by omega)
    rwa [hr2] at this
  have HK : Hid _ := hk
  clear hk hq hr2
  obtain ⟨hk1, hk16⟩ := hk16
  have HR : Hid _ := hr
  clear hr
  go_enter Try.func12, Try.ntmps12
  go_wp2_with fail
  refine (leaves_any p cap ss 39 w HR.out (by omega)).mono ?_
  rintro e w1 ⟨v, rfl, ho, hb1⟩
  have HO : Hid _ := ho
  have hl1 : (lv ss (min 39 ss.length)).length = min 39 ss.length + 1 := lv_length _ _ (Nat.min_le_right _ _)
  have HL : Hid (1 ≤ (lv ss (min 39 ss.length)).length ∧ (lv ss (min 39 ss.length)).length ≤ 40) := by
    show _ ∧ _
    omega
  have HZ : Hid _ := lv_sizes ss (min 39 ss.length)
  clear ho hl1
  generalize lv ss (min 39 ss.length) = L0 at *
  go_wp2_with fail
  go_loopw [7] (fun v wr => Below w.heap.size w wr ∧ ∃ L, Hid (Own wr w.heap.size v L ∧ 1 ≤ L.length ∧ L.length ≤ 40 ∧ ∀ s ∈ L, s.size ≤ 30)) (fun v _ => 32 - lenOfV v)
  case atStart => exact ⟨hb1, L0, HO.out, HL.out.1, HL.out.2, HZ.out⟩
  case round =>
    obtain ⟨hb, L, HQ⟩ := hrel
    clear HO HL HZ hb1
    have hbs := hb.size
    obtain ⟨g, cp, rfl, hg, hcp, hcm, hrow⟩ := HQ.out.1.open (by intro h; have := HQ.out.2.1; rw [h] at this; simp at this) (fun s hs => Nat.le_trans (HQ.out.2.2.2 s hs) (by decide)) (Nat.le_trans HQ.out.2.2.1 (by decide))
    have hL1 := HQ.out.2.1
    have hL2 := HQ.out.2.2.1
    by_cases h32 : L.length < 32
    · go_wp2_with (at_builtin; refine wpList_append_own _ rfl _ _ 22 rfl w.heap.size 9 i0 (.string ByteArray.empty) 1 16 Try.underlying22 hi hz0 hz1 hz2 rfl (by decide) _ _ _ rfl (HQ.out.1.alloc _) ⟨wr.heap.size, 0, none⟩ 1 1 [.string moreB] rfl rfl (cell_one_new _ _ _) ?c2 ?c3 ?c4 ?c5 ?_)
      case c2 => intro u hu; simp at hu; subst hu; rfl
      case c3 => unfold maxLen; omega
      case c4 => omega
      case c5 => simp; omega
      intro v' w2 hown' hgrow _
      have R := own_step hb hbs HQ.out.1 _ hown' hgrow
      obtain ⟨R1, R2⟩ := R
      have HR1 : Hid _ := R1
      have hv' : Hid (lenOfV v' = L.length + 1) := by
        show _ = _
        rcases hown'.2 with ⟨_, h0⟩ | ⟨_, _, _, h1, _⟩
        · omega
        · rw [h1]; rfl
      have HA : Hid (∀ s ∈ L ++ [moreB], s.size ≤ 30) := by
        intro s hs
        rcases List.mem_append.1 hs with h | h
        · exact HQ.out.2.2.2 s h
        · rw [List.mem_singleton.1 h]; decide
      clear hown' hgrow R1
      go_wp2_with fail
      go_roundw
      case rel => exact ⟨R2, L ++ [moreB], HR1.out, by simp, by simp; omega, HA.out⟩
      case measure => show 32 - lenOfV v' < 32 - L.length; rw [hv'.out]; omega
    · have hrs := HQ.out.2.2.2
      clear HQ
      go_wp2_with fail
      refine (HP1.out _).mono ?_
      rintro e w2 ⟨rfl, rfl⟩
      go_wp2_with fail
      refine (HP2.out _).mono ?_
      rintro e w3 ⟨rfl, rfl⟩
      have hn1 : k < k + 1 + r := by omega
      have hn2 : k + 1 + r ≤ 2 * k := by omega
      have hn3 : k + 1 + r ≤ L.length := by omega
      have hN : (L.take (k + 1 + r)).length = k + 1 + r := by rw [List.length_take]; omega
      have hA : (L.take k).length = k := by rw [List.length_take]; omega
      have hB : ((L.take (k + 1 + r)).drop k).length = k + 1 + r - k := by rw [List.length_drop, hN]
      have sA : ∀ s ∈ L.take k, s.size ≤ 30 := fun s hs => hrs s (List.mem_of_mem_take hs)
      have sN : ∀ s ∈ L.take (k + 1 + r), s.size ≤ 30 := fun s hs => hrs s (List.mem_of_mem_take hs)
      have sB : ∀ s ∈ (L.take (k + 1 + r)).drop k, s.size ≤ 30 := fun s hs => sN s (List.mem_of_mem_drop hs)
      have HE : Hid _ := node_eq L k (k + 1 + r) HK.out hn1 hn2 hn3
      have HZ : Hid _ := Pl.root_size (L.take (k + 1 + r))
      have HZA : Hid _ := Pl.root_size (L.take k)
      have HZB : Hid _ := Pl.root_size ((L.take (k + 1 + r)).drop k)
      have HA : Hid (∀ w', Row w' (some ⟨g, 0, none⟩) L → Calls Try.prog 18 #[.slice (some ⟨g, 0, none⟩) k cp] w' fun e w'' => e = .returned (.tuple #[.string (Pl.root (L.take k)), .int .i64 0]) ∧ Below w'.heap.size w' w'') := fun w' h =>
        troot_to _ cp k _ _ w' hA (by omega) hcm (h.take k) (by omega) sA rfl
      have HN : Hid (∀ w', Row w' (some ⟨g, 0, none⟩) L → Calls Try.prog 18 #[.slice (some ⟨g, 0, none⟩) (k + 1 + r) cp] w' fun e w'' => e = .returned (.tuple #[.string (Pl.root (L.take (k + 1 + r))), .int .i64 0]) ∧ Below w'.heap.size w' w'') := fun w' h =>
        troot_to _ cp (k + 1 + r) _ _ w' hN (by omega) hcm (h.take (k + 1 + r)) (by omega) sN rfl
      have HB : Hid (∀ w', Row w' (some ⟨g, 0, none⟩) L → Calls Try.prog 18 #[.slice (some ⟨g, k, none⟩) (k + 1 + r - k) (cp - k)] w' fun e w'' => e = .returned (.tuple #[.string (Pl.root ((L.take (k + 1 + r)).drop k)), .int .i64 0]) ∧ Below w'.heap.size w' w'') := fun w' h => by
        have h2 := (h.take (k + 1 + r)).drop k
        rw [Nat.zero_add] at h2
        exact troot_to _ (cp - k) (k + 1 + r - k) _ _ w' hB (by omega) (by unfold maxLen at hcm; omega) h2 (by omega) sB rfl
      obtain ⟨l0, hl0, hcell0⟩ : ∃ l0, L[0]? = some l0 ∧ ∀ w', Row w' (some ⟨g, 0, none⟩) L → w'.cell? ⟨g, 0, none⟩ = some (.string l0) := by
        refine ⟨L[0], List.getElem?_eq_getElem _, fun w' h => ?_⟩
        rcases h.cell with h0 | ⟨b, o, he, _, hc⟩
        · rw [h0] at hL1; exact absurd hL1 (by simp)
        · simp only [Option.some.injEq, Addr.mk.injEq, and_true] at he
          obtain ⟨rfl, rfl⟩ := he
          have := hc 0 (by omega)
          simpa using this
      have sl0 : l0.size ≤ 30 := hrs l0 (List.mem_of_getElem? hl0)
      have HC0 : Hid _ := hcell0
      clear hN hA hB sA sN sB hrs hl0 hcell0 HP1 HP2 HK
      generalize Pl.root (L.take k) = ra at *
      generalize Pl.root ((L.take (k + 1 + r)).drop k) = rb at *
      generalize Pl.root (L.take (k + 1 + r)) = rc at *
      go_wp2_with fail
      refine (HA.out _ hrow).mono ?_
      rintro e w4 ⟨rfl, hb4⟩
      have hrow4 := hrow.grow hb4 (Nat.le_refl _)
      go_wp2_with fail
      refine (HB.out _ hrow4).mono ?_
      rintro e w5 ⟨rfl, hb5⟩
      have hrow5 := hrow4.grow hb5 (Nat.le_refl _)
      go_wp2_with fail
      refine (HN.out _ hrow5).mono ?_
      rintro e w6 ⟨rfl, hb6⟩
      have hrow6 := hrow5.grow hb6 (Nat.le_refl _)
      have hc6 := HC0.out _ hrow6
      go_wp2_with fail
      refine (troot_to (some ⟨w6.heap.size, 0, none⟩) 1 1 [l0] (Pl.root [l0]) _ rfl (by omega) (by omega) (Row.lit w6 [l0] (le_max (Nat.le_of_ble_eq_true rfl)) (lit1 (Nat.le_trans sl0 (by decide)))) (by omega) (by simpa using sl0) rfl).mono ?_
      rintro e w7 ⟨rfl, hb7⟩
      have k7 : Below w6.heap.size w6 w7 := ((Below.refl _ _).alloc (Nat.le_refl _) _).trans (hb7.mono (by simp))
      have hc7 := HC0.out _ (hrow6.grow k7 (Nat.le_refl _))
      clear hb7
      go_wp2_with fail
      refine (sum_to (some ⟨w7.heap.size, 0, none⟩) 2 [⟨#[76]⟩, l0] (Pl.root [l0]) _ (Row.lit w7 _ (le_max (Nat.le_of_ble_eq_true rfl)) (lit2 (by decide) (Nat.le_trans sl0 (by decide)))) rfl).mono ?_
      rintro e w8 ⟨rfl, hb8⟩
      have k8 : Below w7.heap.size w7 w8 := ((Below.refl _ _).alloc (Nat.le_refl _) _).trans (hb8.mono (by simp))
      clear hb8
      have hza : ra.size ≤ maxLen := by rw [HZA.out]; decide
      have hzb : rb.size ≤ maxLen := by rw [HZB.out]; decide
      go_wp2_with fail
      refine (sum_to (some ⟨w8.heap.size, 0, none⟩) 3 [⟨#[78]⟩, ra, rb] rc _ (Row.lit w8 _ (le_max (Nat.le_of_ble_eq_true rfl)) (lit3 (by decide) hza hzb)) (by rw [cat3, HE.out])).mono ?_
      rintro e w9 ⟨rfl, hb9⟩
      have k9 : Below w8.heap.size w8 w9 := ((Below.refl _ _).alloc (Nat.le_refl _) _).trans (hb9.mono (by simp))
      clear hb9
      have hza4 : ra.size ≤ 4 := by rw [HZA.out]; omega
      have hzb4 : rb.size ≤ 4 := by rw [HZB.out]; omega
      have HZ3 : Hid ((⟨#[78]⟩ ++ ra ++ rb : ByteArray).size ≤ maxLen) := by
        show _ ≤ _
        rw [ByteArray.size_append, ByteArray.size_append, HZA.out, HZB.out]
        decide
      have HC3 : Hid (Pl.sum (Pl.cat [⟨#[78]⟩ ++ ra ++ rb]) = rc) := by
        show _ = _
        rw [← HE.out]
        simp [Pl.cat, ByteArray.data_append]
      clear hza hzb
      go_wp2_with fail
      refine (sum_to (some ⟨w9.heap.size, 0, none⟩) 1 [⟨#[78]⟩ ++ ra ++ rb] rc _ (Row.lit w9 _ (le_max (Nat.le_of_ble_eq_true rfl)) (lit1 HZ3.out)) HC3.out).mono ?_
      rintro e w10 ⟨rfl, hb10⟩
      have k10 : Below w9.heap.size w9 w10 := ((Below.refl _ _).alloc (Nat.le_refl _) _).trans (hb10.mono (by simp))
      clear hb10
      have hc4 : ((rc.size : Int) == 4) = true := by rw [HZ.out]; rfl
      go_wp2_with fail
      go_ret
      refine ⟨rfl, ?_⟩
      have m4 := hb.trans (hb4.mono hb.size)
      have m5 := m4.trans (hb5.mono m4.size)
      have m6 := m5.trans (hb6.mono m5.size)
      have m7 := m6.trans (k7.mono m6.size)
      have m8 := m7.trans (k8.mono m7.size)
      have m9 := m8.trans (k9.mono m8.size)
      exact m9.trans (k10.mono m9.size)

theorem rooted_walk (v : Value) (ss : List ByteArray) (c1 c2 : Int) (w : World) (hr : IsRow w v ss) (hc1 : -9223372036854775808 ≤ c1 ∧ c1 ≤ 9223372036854775807) (hc2 : -9223372036854775808 ≤ c2 ∧ c2 ≤ 9223372036854775807) :
    Calls Try.prog 12 #[v, .int .i64 c1, .int .i64 c2] w fun e w' => e = .returned (.bool true) ∧ Below w.heap.size w w' := by
  rcases hr with ⟨rfl, rfl⟩ | ⟨a, cap, rfl, _, _, hr⟩
  · exact rooted_rest none 0 [] c1 c2 w (row_nil w) hc1 hc2
  · exact rooted_rest (some a) cap ss c1 c2 w hr hc1 hc2

end Go.Proofs.Ytkhnjipjbhcgdaa
