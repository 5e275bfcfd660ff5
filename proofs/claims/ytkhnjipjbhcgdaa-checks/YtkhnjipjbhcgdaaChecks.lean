/-
  THE WALK of treeheadlaw.Checks.
-/
import Derived.Test.YtkhnjipjbhcgdaaChecks1
namespace Go.Proofs.Ytkhnjipjbhcgdaa
open Go.RowKit

theorem checks_any (root : ByteArray) (size index : Int) (leaf : ByteArray) (ss : List ByteArray) (pv : Value) (os : Int) (a : ByteArray) (fs : Int) (b : ByteArray) (qv : Value) (qq : List ByteArray) (w : World) (hz1 : root.size ≤ maxLen) (hz2 : leaf.size ≤ maxLen) (hz3 : a.size ≤ maxLen) (hz4 : b.size ≤ maxLen) (hp : IsRow w pv ss) (hq : IsRow w qv qq) :
    Calls Try.prog 28 #[.string root, .agg #[.int .i64 size, .int .i64 index, .string leaf, pv], .agg #[.int .i64 os, .string a], .agg #[.int .i64 fs, .string b], qv] w fun e w' => e = .returned (.bool true) ∧ Below w.heap.size w w' := by
  rcases hp with ⟨rfl, rfl⟩ | ⟨a1, c1, rfl, hc1, hm1, hr1⟩
  · rcases hq with ⟨rfl, rfl⟩ | ⟨a2, c2, rfl, hc2, hm2, hr2⟩
    · exact checks_nn root size index leaf os fs a b w hz1 hz2 hz3 hz4
    · exact checks_ns root size index leaf os fs a b a2 c2 qq w hz1 hz2 hz3 hz4 hr2 hc2 hm2
  · rcases hq with ⟨rfl, rfl⟩ | ⟨a2, c2, rfl, hc2, hm2, hr2⟩
    · exact checks_sn root size index leaf os fs a b a1 c1 ss w hz1 hz2 hz3 hz4 hr1 hc1 hm1
    · exact checks_ss root size index leaf os fs a b a1 c1 ss a2 c2 qq w hz1 hz2 hz3 hz4 hr1 hc1 hm1 hr2 hc2 hm2

def ab : List ByteArray := [⟨#[97]⟩, ⟨#[98]⟩]
def cB : ByteArray := ⟨#[99]⟩
theorem abc_path : Pl.path abc 2 = [Pl.root ab] := by decide +kernel
theorem abc_parts : Pl.parts abc 2 true = [Pl.root [cB]] := by decide +kernel
theorem abc_inc : inclA (Pl.root abc) 3 2 cB [Pl.root ab] = 0 := by decide +kernel
theorem abc_exd : extA 2 (Pl.root ab) 3 (Pl.root abc) [Pl.root [cB]] = 0 := by decide +kernel
theorem one_row {w : World} {B : Nat} {v : Value} {s : ByteArray} (h : Own w B v [s]) (hs : s.size ≤ maxLen) : ∃ g cap, v = .slice (some ⟨g, 0, none⟩) 1 cap ∧ B ≤ g ∧ 1 ≤ cap ∧ cap ≤ maxLen ∧ Row w (some ⟨g, 0, none⟩) [s] := h.open (by simp) (lit1 hs) (by simp [maxLen])

set_option maxRecDepth 100000 in
set_option maxHeartbeats 2000000 in
theorem checks_walk (root : ByteArray) (v1 : Value) (size index : Int) (leaf : ByteArray) (ss : List ByteArray) (v2 : Value) (os : Int) (a : ByteArray) (v3 : Value) (fs : Int) (b : ByteArray) (v4 : Value) (qq : List ByteArray) (w : World) (h0 : root.size ≤ maxLen) (h1 : IsAnswer w v1 size index leaf ss) (h2 : IsHead v2 os a) (h3 : IsHead v3 fs b) (h4 : IsRow w v4 qq) :
    Calls Try.prog 6 #[.string root, v1, v2, v3, v4] w fun e w' => e = .returned (.bool true) ∧ Below w.heap.size w w' := by
  obtain ⟨pv, rfl, _, _, hz2, hrow⟩ := h1
  obtain ⟨rfl, _, hz3⟩ := h2
  obtain ⟨rfl, _, hz4⟩ := h3
  have hsl : ∃ p n cap, pv = .slice p n cap := by
    rcases hrow with ⟨h, _⟩ | ⟨a, cap, h, _⟩
    · exact ⟨_, _, _, h⟩
    · exact ⟨_, _, _, h⟩
  have HK : Hid (∀ w', Below w.heap.size w w' → Calls Try.prog 28 #[.string root, .agg #[.int .i64 size, .int .i64 index, .string leaf, pv], .agg #[.int .i64 os, .string a], .agg #[.int .i64 fs, .string b], v4] w' fun e w'' => e = .returned (.bool true) ∧ Below w'.heap.size w' w'') := fun w' hb => checks_any root size index leaf ss pv os a fs b v4 qq w' h0 hz2 hz3 hz4 (hrow.grow hb (Nat.le_refl _)) (h4.grow hb (Nat.le_refl _))
  have hsq : ∃ p n cap, v4 = .slice p n cap := by
    rcases h4 with ⟨h, _⟩ | ⟨a, cap, h, _⟩
    · exact ⟨_, _, _, h⟩
    · exact ⟨_, _, _, h⟩
  clear hrow h4
  obtain ⟨p1, n1, c1, rfl⟩ := hsl
  obtain ⟨p4, n4, c4, rfl⟩ := hsq
  have hk0 : Below w.heap.size w (((w.alloc (.cells #[.int .i64 size, .int .i64 index, .string leaf, .slice p1 n1 c1] 36)).alloc (.cells #[.int .i64 os, .string a] 38)).alloc (.cells #[.int .i64 fs, .string b] 38)) := (((Below.refl _ _).alloc (Nat.le_refl _) _).alloc (by simp) _).alloc (by simp; omega) _
  have hA0 : Box (((w.alloc (.cells #[.int .i64 size, .int .i64 index, .string leaf, .slice p1 n1 c1] 36)).alloc (.cells #[.int .i64 os, .string a] 38)).alloc (.cells #[.int .i64 fs, .string b] 38)) w.heap.size 36 [.int .i64 size, .int .i64 index, .string leaf, .slice p1 n1 c1] := ((Box.new w 36 [.int .i64 size, .int .i64 index, .string leaf, .slice p1 n1 c1]).alloc _).alloc _
  have hB0 : Box (((w.alloc (.cells #[.int .i64 size, .int .i64 index, .string leaf, .slice p1 n1 c1] 36)).alloc (.cells #[.int .i64 os, .string a] 38)).alloc (.cells #[.int .i64 fs, .string b] 38)) (w.heap.size + 1) 38 [.int .i64 os, .string a] := by
    have := (Box.new (w.alloc (.cells #[.int .i64 size, .int .i64 index, .string leaf, .slice p1 n1 c1] 36)) 38 [.int .i64 os, .string a]).alloc (.cells #[.int .i64 fs, .string b] 38)
    rwa [show (w.alloc (.cells #[.int .i64 size, .int .i64 index, .string leaf, .slice p1 n1 c1] 36)).heap.size = w.heap.size + 1 by simp] at this
  have hC0 : Box (((w.alloc (.cells #[.int .i64 size, .int .i64 index, .string leaf, .slice p1 n1 c1] 36)).alloc (.cells #[.int .i64 os, .string a] 38)).alloc (.cells #[.int .i64 fs, .string b] 38)) (w.heap.size + 2) 38 [.int .i64 fs, .string b] := by
    have := Box.new ((w.alloc (.cells #[.int .i64 size, .int .i64 index, .string leaf, .slice p1 n1 c1] 36)).alloc (.cells #[.int .i64 os, .string a] 38)) 38 [.int .i64 fs, .string b]
    rwa [show ((w.alloc (.cells #[.int .i64 size, .int .i64 index, .string leaf, .slice p1 n1 c1] 36)).alloc (.cells #[.int .i64 os, .string a] 38)).heap.size = w.heap.size + 2 by simp] at this
  have HT : Hid _ := three_any
  have HR1 : Hid (∀ w, Calls Try.prog 23 #[.slice (some ⟨w.heap.size, 0, none⟩) abc.length 3] (w.alloc (.cells (abc.map Value.string).toArray 9)) fun e w' => e = .returned (.tuple #[.string (Pl.root abc), .int .i64 0]) ∧ Below w.heap.size w w') := fun w => by
    have := rtroot_any (some ⟨w.heap.size, 0, none⟩) 3 abc (w.alloc (.cells (abc.map Value.string).toArray 9)) (by decide) (by omega) (Row.lit w abc (by decide) abc_sizes)
    rw [rootAns_yes abc_ok] at this
    exact this.mono fun e w' ⟨he, hb⟩ => ⟨he, ((Below.refl _ w).alloc (Nat.le_refl _) _).trans (hb.mono (by simp))⟩
  have HR2 : Hid (∀ w, Calls Try.prog 23 #[.slice (some ⟨w.heap.size, 0, none⟩) 2 2] (w.alloc (.cells #[.string ⟨#[97]⟩, .string ⟨#[98]⟩] 9)) fun e w' => e = .returned (.tuple #[.string (Pl.root ab), .int .i64 0]) ∧ Below w.heap.size w w') := fun w => by
    have := rtroot_any (some ⟨w.heap.size, 0, none⟩) 2 ab (w.alloc (.cells (ab.map Value.string).toArray 9)) (by decide) (by omega) (Row.lit w ab (by decide) (lit2 (by decide) (by decide)))
    rw [rootAns_yes (by decide)] at this
    exact this.mono fun e w' ⟨he, hb⟩ => ⟨he, ((Below.refl _ w).alloc (Nat.le_refl _) _).trans (hb.mono (by simp))⟩
  have HI : Hid (∀ w, Calls Try.prog 24 #[.slice (some ⟨w.heap.size, 0, none⟩) abc.length 3, .int .i64 2] (w.alloc (.cells (abc.map Value.string).toArray 9)) fun e w' => ∃ v, e = .returned (.tuple #[v, .int .i64 0]) ∧ Own w' w.heap.size v [Pl.root ab] ∧ Below w.heap.size w w') := fun w => by
    have := rincl_yes (some ⟨w.heap.size, 0, none⟩) 3 abc 2 (w.alloc (.cells (abc.map Value.string).toArray 9)) (by decide) (by omega) (Row.lit w abc (by decide) abc_sizes) (by decide)
    rw [show (2 : Int).toNat = 2 from rfl, abc_path] at this
    exact this.mono fun e w' ⟨v, he, ho, hb⟩ => ⟨v, he, ho.mono (by simp), ((Below.refl _ w).alloc (Nat.le_refl _) _).trans (hb.mono (by simp))⟩
  have HX : Hid (∀ w, Calls Try.prog 25 #[.slice (some ⟨w.heap.size, 0, none⟩) abc.length 3, .int .i64 2] (w.alloc (.cells (abc.map Value.string).toArray 9)) fun e w' => ∃ v, e = .returned (.tuple #[v, .int .i64 0]) ∧ Own w' w.heap.size v [Pl.root [cB]] ∧ Below w.heap.size w w') := fun w => by
    have := rext_yes (some ⟨w.heap.size, 0, none⟩) 3 abc 2 (w.alloc (.cells (abc.map Value.string).toArray 9)) (by decide) (by omega) (Row.lit w abc (by decide) abc_sizes) (by decide)
    rw [show (2 : Int).toNat = 2 from rfl, abc_parts] at this
    exact this.mono fun e w' ⟨v, he, ho, hb⟩ => ⟨v, he, ho.mono (by simp), ((Below.refl _ w).alloc (Nat.le_refl _) _).trans (hb.mono (by simp))⟩
  have HIn : Hid (∀ g cap w, Row w (some ⟨g, 0, none⟩) [Pl.root ab] → Calls Try.prog 26 #[.string (Pl.root abc), .agg #[.int .i64 3, .int .i64 2, .string ⟨#[99]⟩, .slice (some ⟨g, 0, none⟩) 1 cap]] w fun e w' => e = .returned (.int .i64 0) ∧ Below w.heap.size w w') := fun g cap w h => by
    have := tincl_any (Pl.root abc) 3 2 cB (some ⟨g, 0, none⟩) cap [Pl.root ab] w (root_le _) (by decide) h
    rwa [abc_inc] at this
  have HEx : Hid (∀ g cap w, Row w (some ⟨g, 0, none⟩) [Pl.root [cB]] → 1 ≤ cap → Calls Try.prog 27 #[.agg #[.int .i64 2, .string (Pl.root ab)], .agg #[.int .i64 3, .string (Pl.root abc)], .slice (some ⟨g, 0, none⟩) 1 cap] w fun e w' => e = .returned (.int .i64 0) ∧ Below w.heap.size w w') := fun g cap w h hc => by
    have := text_any 2 3 (Pl.root ab) (Pl.root abc) (some ⟨g, 0, none⟩) cap [Pl.root [cB]] w (root_le _) (root_le _) h hc
    rwa [abc_exd] at this
  have HZ1 : Hid _ := root_le ab
  have HZ2 : Hid _ := root_le [cB]
  generalize Pl.root abc = R1 at *
  generalize Pl.root ab = R2 at *
  generalize Pl.root [cB] = R3 at *
  go_enter Try.func6, Try.ntmps6
  go_wp2_with fail
  generalize (((w.alloc (.cells #[.int .i64 size, .int .i64 index, .string leaf, .slice p1 n1 c1] 36)).alloc (.cells #[.int .i64 os, .string a] 38)).alloc (.cells #[.int .i64 fs, .string b] 38)) = W0 at *
  refine (HT.out _).mono ?_
  rintro e w1 ⟨rfl, rfl⟩
  go_wp2_with fail
  refine (HR1.out _).mono ?_
  rintro e w2 ⟨rfl, hb2⟩
  go_wp2_with fail
  refine (HR2.out _).mono ?_
  rintro e w3 ⟨rfl, hb3⟩
  go_wp2_with fail
  refine (HT.out _).mono ?_
  rintro e w4 ⟨rfl, rfl⟩
  go_wp2_with fail
  refine (HI.out _).mono ?_
  rintro e w5 ⟨v5, rfl, ho5, hb5⟩
  have HO5 : Hid (Own w5 w3.heap.size v5 [R2]) := ho5
  obtain ⟨q5, n5, m5, hv5⟩ : ∃ q n m, v5 = .slice q n m := by
    obtain ⟨g, cap, hv, _⟩ := one_row ho5 HZ1.out
    exact ⟨_, _, _, hv⟩
  subst hv5
  clear ho5
  go_wp2_with fail
  refine (HT.out _).mono ?_
  rintro e w6 ⟨rfl, rfl⟩
  go_wp2_with fail
  refine (HX.out _).mono ?_
  rintro e w7 ⟨v7, rfl, ho7, hb7⟩
  have HO6 : Own w7 w3.heap.size (.slice q5 n5 m5) [R2] := Own.grow HO5.out hb7
  obtain ⟨g5, cap5, hv5, _, hc5, _, hr5⟩ := one_row HO6 HZ1.out
  simp only [Value.slice.injEq] at hv5
  obtain ⟨rfl, rfl, rfl⟩ := hv5
  obtain ⟨g7, cap7, rfl, _, hc7, _, hr7⟩ := one_row ho7 HZ2.out
  have HR5 : Hid _ := hr5
  have HR7 : Hid _ := hr7
  have k2 := hb2
  have k3 := k2.trans (hb3.mono k2.size)
  have k5 := k3.trans (hb5.mono k3.size)
  have k7 := k5.trans (hb7.mono k5.size)
  clear hb2 hb3 hb5 hb7 k2 k3 k5 ho7 HO5 HO6 hr5 hr7
  go_wp2_with fail
  refine (HIn.out _ _ _ HR5.out).mono ?_
  rintro e w8 ⟨rfl, hb8⟩
  go_wp2_with fail
  refine (HEx.out _ _ _ (HR7.out.grow hb8 (Nat.le_refl _)) hc7).mono ?_
  rintro e w9 ⟨rfl, hb9⟩
  have k8 := k7.trans (hb8.mono k7.size)
  have k9 := k8.trans (hb9.mono k8.size)
  have hA9 := hA0.grow k9 hA0.lt
  have hB9 := hB0.grow k9 hB0.lt
  have hC9 := hC0.grow k9 hC0.lt
  have x0 := hA9.cell 0
  have x1 := hA9.cell 1
  have x2 := hA9.cell 2
  have x3 := hA9.cell 3
  have y0 := hB9.cell 0
  have y1 := hB9.cell 1
  have y2 := hC9.cell 0
  have y3 := hC9.cell 1
  have hk9 := hk0.trans (k9.mono hk0.size)
  clear hb8 hb9 k7 k8 k9 hA0 hB0 hC0 hA9 hB9 hC9
  go_wp2_with fail
  refine (HK.out _ hk9).mono ?_
  rintro e w10 ⟨rfl, hb10⟩
  go_wp2_with fail
  go_ret
  exact ⟨rfl, hk9.trans (hb10.mono hk9.size)⟩

end Go.Proofs.Ytkhnjipjbhcgdaa
