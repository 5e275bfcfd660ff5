/-
  THE WALK of treeheadkeep.Sound.
-/
import Derived.Test.YtkhnjipjbhcgdabTClash
import Derived.Test.YtkhnjipjbhcgdabSound1
import Derived.Test.YtkhnjipjbhcgdabLeaves
import Derived.Test.YtkhnjipjbhcgdabOpen2
namespace Go.Proofs.Ytkhnjipjbhcgdab
open Go.RowKit Hp

/-- treehead.Sum of one text, laid anew. -/
theorem tsum_one (s : ByteArray) (w : World) (hs : s.size ≤ maxLen) :
    Calls Try.prog 9 #[.slice (some ⟨w.heap.size, 0, none⟩) 1 1] (w.alloc (.cells #[.string s] 9)) fun e w' => e = .returned (.string (Pl.sumB s)) ∧ Below w.heap.size w w' := by
  have h := sum_of (some ⟨w.heap.size, 0, none⟩) 1 [s] s.data.toList (w.alloc (.cells #[.string s] 9)) (Row.lit w [s] (by simp [maxLen]) (by intro x hx; rw [List.mem_singleton.1 hx]; exact hs)) (by simp [Pl.cat])
  exact h.mono fun e w' ⟨he, hb⟩ => ⟨he, ((Below.refl _ w).alloc (Nat.le_refl _) _).trans (hb.mono (by simp))⟩
/-- treehead.Root of one leaf, laid anew. -/
theorem troot_one (s : ByteArray) (w : World) (hs : s.size ≤ 30) :
    Calls Try.prog 24 #[.slice (some ⟨w.heap.size, 0, none⟩) 1 1] (w.alloc (.cells #[.string s] 9)) fun e w' => e = .returned (.tuple #[.string (Pl.root [s]), .int .i64 0]) ∧ Below w.heap.size w w' := by
  have h := troot_any (some ⟨w.heap.size, 0, none⟩) 1 [s] (w.alloc (.cells #[.string s] 9)) (by simp) (by omega) (Row.lit w [s] (by simp [maxLen]) (by intro x hx; rw [List.mem_singleton.1 hx]; exact Nat.le_trans hs (by decide)))
  rw [rootAns_yes (okB_mk (by simp) (by intro x hx; rw [List.mem_singleton.1 hx]; exact hs))] at h
  exact h.mono fun e w' ⟨he, hb⟩ => ⟨he, ((Below.refl _ w).alloc (Nat.le_refl _) _).trans (hb.mono (by simp))⟩
theorem incl_one (s : ByteArray) (hs : s.size ≤ 30) : inclA (Pl.root [s]) 1 0 s [] = 0 := by
  have ha : Pl.ansB 1 0 s = true := by
    unfold Pl.ansB
    simp only [Bool.and_eq_true, decide_eq_true_eq]
    exact ⟨⟨⟨⟨by omega, by omega⟩, by omega⟩, by omega⟩, hs⟩
  unfold inclA
  rw [if_pos ⟨Pl.root_isSum _, ha⟩]
  show (match Pl.leafT s 0 1 [] with | none => 6 | some (_, x) => if x = Pl.root [s] then 0 else 6) = (0 : Int)
  rw [Pl.leafT_one, Pl.root_leaf]
  simp

set_option maxRecDepth 100000 in
set_option maxHeartbeats 4000000 in
theorem sound_core (n1 i1 : Int) (l1 : ByteArray) (p1 : Option Addr) (k1 c1 : Nat) (n2 i2 : Int) (l2 : ByteArray) (p2 : Option Addr) (k2 c2 : Nat) (p3 : Option Addr) (k3 c3 : Nat) (r s : ByteArray) (w : World)
    (f g h c : Int) (x y : ByteArray) (hxz : x.size ≤ maxLen) (hyz : y.size ≤ maxLen)
    (HF : Hid (∀ w', Below w.heap.size w w' → Calls Try.prog 25 #[.string r, .agg #[.int .i64 n1, .int .i64 i1, .string l1, .slice p1 k1 c1]] w' fun e w'' => e = .returned (.int .i64 f) ∧ Below w'.heap.size w' w''))
    (HG : Hid (∀ w', Below w.heap.size w w' → Calls Try.prog 25 #[.string s, .agg #[.int .i64 n2, .int .i64 i2, .string l2, .slice p2 k2 c2]] w' fun e w'' => e = .returned (.int .i64 g) ∧ Below w'.heap.size w' w''))
    (HH : Hid (∀ w', Below w.heap.size w w' → Calls Try.prog 26 #[.agg #[.int .i64 n1, .string r], .agg #[.int .i64 n2, .string s], .slice p3 k3 c3] w' fun e w'' => e = .returned (.int .i64 h) ∧ Below w'.heap.size w' w''))
    (HC : Hid (∀ w', Below w.heap.size w w' → Calls Try.prog 27 #[.agg #[.int .i64 n1, .int .i64 i1, .string l1, .slice p1 k1 c1], .agg #[.int .i64 n2, .int .i64 i2, .string l2, .slice p2 k2 c2], .slice p3 k3 c3] w' fun e w'' => e = .returned (.tuple #[.string x, .string y, .int .i64 c]) ∧ Below w'.heap.size w' w''))
    (hA : Hid (c = 0 → ¬ x = y ∧ Pl.sumB x = Pl.sumB y ∧ ¬ l1 = l2)) (hB : Hid (¬ c = 0 → x = ⟨#[]⟩ ∧ y = ⟨#[]⟩)) (hCC : Hid (¬ c = 0 → f = 0 → g = 0 → h = 0 → i1 = i2 → l1 = l2 ∧ c = 8)) :
    Calls Try.prog 7 #[.agg #[.int .i64 n1, .int .i64 i1, .string l1, .slice p1 k1 c1], .agg #[.int .i64 n2, .int .i64 i2, .string l2, .slice p2 k2 c2], .slice p3 k3 c3, .string r, .string s] w fun e w' => e = .returned (.bool true) ∧ Below w.heap.size w w' := by
  have hx0 : Box ((w.alloc (.cells #[.int .i64 n1, .int .i64 i1, .string l1, .slice p1 k1 c1] 53)).alloc (.cells #[.int .i64 n2, .int .i64 i2, .string l2, .slice p2 k2 c2] 53)) w.heap.size 53 [.int .i64 n1, .int .i64 i1, .string l1, .slice p1 k1 c1] := (Box.new w 53 [.int .i64 n1, .int .i64 i1, .string l1, .slice p1 k1 c1]).alloc _
  have hy0 : Box ((w.alloc (.cells #[.int .i64 n1, .int .i64 i1, .string l1, .slice p1 k1 c1] 53)).alloc (.cells #[.int .i64 n2, .int .i64 i2, .string l2, .slice p2 k2 c2] 53)) (w.heap.size + 1) 53 [.int .i64 n2, .int .i64 i2, .string l2, .slice p2 k2 c2] := Box.new2 w _ 53 [.int .i64 n2, .int .i64 i2, .string l2, .slice p2 k2 c2]
  have hk0 : Below w.heap.size w ((w.alloc (.cells #[.int .i64 n1, .int .i64 i1, .string l1, .slice p1 k1 c1] 53)).alloc (.cells #[.int .i64 n2, .int .i64 i2, .string l2, .slice p2 k2 c2] 53)) := ((Below.refl _ _).alloc (Nat.le_refl _) _).alloc (by simp) _
  have hz2 : ((w.alloc (.cells #[.int .i64 n1, .int .i64 i1, .string l1, .slice p1 k1 c1] 53)).alloc (.cells #[.int .i64 n2, .int .i64 i2, .string l2, .slice p2 k2 c2] 53)).heap.size = w.heap.size + 2 := by simp
  have hR := troot_one ⟨#[120]⟩ ((w.alloc (.cells #[.int .i64 n1, .int .i64 i1, .string l1, .slice p1 k1 c1] 53)).alloc (.cells #[.int .i64 n2, .int .i64 i2, .string l2, .slice p2 k2 c2] 53)) (by decide)
  rw [hz2] at hR
  have HR : Hid _ := hR
  have HI : Hid (∀ w, Calls Try.prog 25 #[.string (Pl.root [⟨#[120]⟩]), .agg #[.int .i64 1, .int .i64 0, .string ⟨#[120]⟩, .slice none 0 0]] w fun e w' => e = .returned (.int .i64 0) ∧ Below w.heap.size w w') := fun w => by
    have h := tincl_any (Pl.root [⟨#[120]⟩]) 1 0 ⟨#[120]⟩ none 0 [] w (by rw [isSumB_size (Pl.root_isSum _)]; decide) (by decide) (row_nil w)
    rwa [incl_one ⟨#[120]⟩ (by decide)] at h
  have HS1 : Hid _ := fun w => tsum_one x w hxz
  have HS2 : Hid _ := fun w => tsum_one y w hyz
  clear hR
  generalize Pl.root [⟨#[120]⟩] = X at *
  go_enter Try.func7, Try.ntmps7
  go_wp2_with fail
  refine Calls.mono HR.out ?_
  rintro e w1 ⟨rfl, hb1⟩
  rw [← hz2] at hb1
  have hx1 := hx0.grow hb1 hx0.lt
  have hy1 := hy0.grow hb1 hy0.lt
  have hk1 := hk0.trans (hb1.mono hk0.size)
  clear hb1 hx0 hy0 hk0 hz2 HR
  go_wp2_with fail
  refine (HI.out _).mono ?_
  rintro e w2 ⟨rfl, hb2⟩
  have hx2 := hx1.grow hb2 hx1.lt
  have hy2 := hy1.grow hb2 hy1.lt
  have hk2 := hk1.trans (hb2.mono hk1.size)
  clear hb2 hx1 hy1 hk1 HI
  have a0 := hx2.cell 0
  have a1 := hx2.cell 1
  have a2 := hx2.cell 2
  have a3 := hx2.cell 3
  go_wp2_with fail
  refine (HF.out _ hk2).mono ?_
  rintro e w3 ⟨rfl, hb3⟩
  have hx3 := hx2.grow hb3 hx2.lt
  have hy3 := hy2.grow hb3 hy2.lt
  have hk3 := hk2.trans (hb3.mono hk2.size)
  clear hb3 hx2 hy2 hk2 HF a0 a1 a2 a3
  have a0 := hy3.cell 0
  have a1 := hy3.cell 1
  have a2 := hy3.cell 2
  have a3 := hy3.cell 3
  go_wp2_with fail
  refine (HG.out _ hk3).mono ?_
  rintro e w4 ⟨rfl, hb4⟩
  have hx4 := hx3.grow hb4 hx3.lt
  have hy4 := hy3.grow hb4 hy3.lt
  have hk4 := hk3.trans (hb4.mono hk3.size)
  clear hb4 hx3 hy3 hk3 HG a0 a1 a2 a3
  have a0 := hx4.cell 0
  have b0 := hy4.cell 0
  go_wp2_with fail
  refine (HH.out _ hk4).mono ?_
  rintro e w5 ⟨rfl, hb5⟩
  have hx5 := hx4.grow hb5 hx4.lt
  have hy5 := hy4.grow hb5 hy4.lt
  have hk5 := hk4.trans (hb5.mono hk4.size)
  clear hb5 hx4 hy4 hk4 HH a0 b0
  have a0 := hx5.cell 0
  have a1 := hx5.cell 1
  have a2 := hx5.cell 2
  have a3 := hx5.cell 3
  have b0 := hy5.cell 0
  have b1 := hy5.cell 1
  have b2 := hy5.cell 2
  have b3 := hy5.cell 3
  go_wp2_with fail
  refine (HC.out _ hk5).mono ?_
  rintro e w6 ⟨rfl, hb6⟩
  have hx6 := hx5.grow hb6 hx5.lt
  have hy6 := hy5.grow hb6 hy5.lt
  have hk6 := hk5.trans (hb6.mono hk5.size)
  clear hb6 hx5 hy5 hk5 HC a0 a1 a2 a3 b0 b1 b2 b3
  by_cases hc : c = 0
  · obtain ⟨h1, h2, h3⟩ := hA.out hc
    subst hc
    have h1' := bytes_ne h1
    have h3' := bytes_ne h3
    rw [← h2] at HS2
    clear hA hB hCC h1 h2 h3
    generalize Pl.sumB x = S at *
    go_wp2_with fail
    refine (HS1.out _).mono ?_
    rintro e w7 ⟨rfl, hb7⟩
    have hk7 := hk6.trans (hb7.mono hk6.size)
    have hx7 := hx6.grow hb7 hx6.lt
    have hy7 := hy6.grow hb7 hy6.lt
    clear hb7 hx6 hy6 hk6
    go_wp2_with fail
    refine (HS2.out _).mono ?_
    rintro e w8 ⟨rfl, hb8⟩
    have hk8 := hk7.trans (hb8.mono hk7.size)
    have hx8 := hx7.grow hb8 hx7.lt
    have hy8 := hy7.grow hb8 hy7.lt
    have a2 := hx8.cell 2
    have b2 := hy8.cell 2
    clear hb8 hx7 hy7 hk7
    go_wp2_with fail
    go_ret
    exact ⟨rfl, hk8⟩
  · obtain ⟨rfl, rfl⟩ := hB.out hc
    have HCC : Hid _ := hCC.out hc
    have a1 := hx6.cell 1
    have b1 := hy6.cell 1
    have a2 := hx6.cell 2
    have b2 := hy6.cell 2
    clear hA hB hCC HS1 HS2
    by_cases hf : f = 0
    · subst hf
      by_cases hg : g = 0
      · subst hg
        by_cases hh : h = 0
        · subst hh
          by_cases hi : i1 = i2
          · obtain ⟨h1, h2⟩ := HCC.out rfl rfl rfl hi
            subst h1 h2 hi
            clear HCC
            go_wp2_with fail
            go_ret
            exact ⟨rfl, hk6⟩
          · clear HCC
            go_wp2_with fail
            go_ret
            exact ⟨rfl, hk6⟩
        · clear HCC
          go_wp2_with fail
          go_ret
          exact ⟨rfl, hk6⟩
      · clear HCC
        go_wp2_with fail
        go_ret
        exact ⟨rfl, hk6⟩
    · clear HCC
      go_wp2_with fail
      go_ret
      exact ⟨rfl, hk6⟩

theorem IsRow.parts {w : World} {v : Value} {ss : List ByteArray} (h : IsRow w v ss) : ∃ p cap, v = .slice p ss.length cap ∧ ss.length ≤ cap ∧ cap ≤ 9223372036854775807 ∧ Row w p ss := by
  rcases h with ⟨rfl, rfl⟩ | ⟨a, cap, rfl, hc, hm, hr⟩
  · exact ⟨none, 0, rfl, by simp, by omega, row_nil w⟩
  · exact ⟨some a, cap, rfl, hc, by omega, hr⟩

theorem sound_walk (v1 : Value) (n1 i1 : Int) (l1 : ByteArray) (q1 : List ByteArray) (v2 : Value) (n2 i2 : Int) (l2 : ByteArray) (q2 : List ByteArray) (v3 : Value) (q3 : List ByteArray) (r s : ByteArray) (w : World) (h1 : IsAnswer w v1 n1 i1 l1 q1) (h2 : IsAnswer w v2 n2 i2 l2 q2) (h3 : IsRow w v3 q3) (h4 : r.size ≤ maxLen) (h5 : s.size ≤ maxLen) :
    Calls Try.prog 7 #[v1, v2, v3, .string r, .string s] w fun e w' => e = .returned (.bool true) ∧ Below w.heap.size w w' := by
  obtain ⟨pv1, rfl, _, _, hl1, hr1⟩ := h1
  obtain ⟨pv2, rfl, _, _, hl2, hr2⟩ := h2
  obtain ⟨p1, c1, rfl, hc1, hm1, hr1⟩ := hr1.parts
  obtain ⟨p2, c2, rfl, hc2, hm2, hr2⟩ := hr2.parts
  obtain ⟨p3, c3, rfl, hc3, hm3, hr3⟩ := h3.parts
  obtain ⟨z1, z2⟩ := clashA_sizes n1 i1 l1 q1 n2 i2 l2 q2 q3
  refine sound_core n1 i1 l1 p1 q1.length c1 n2 i2 l2 p2 q2.length c2 p3 q3.length c3 r s w (inclA r n1 i1 l1 q1) (inclA s n2 i2 l2 q2) (extA n1 r n2 s q3) (clashA n1 i1 l1 q1 n2 i2 l2 q2 q3).2.2 (clashA n1 i1 l1 q1 n2 i2 l2 q2 q3).1 (clashA n1 i1 l1 q1 n2 i2 l2 q2 q3).2.1 (Nat.le_trans z1 (by decide)) (Nat.le_trans z2 (by decide))
    (fun w' hb => tincl_any r n1 i1 l1 p1 c1 q1 w' h4 hl1 (hr1.grow hb (Nat.le_refl _)))
    (fun w' hb => tincl_any s n2 i2 l2 p2 c2 q2 w' h5 hl2 (hr2.grow hb (Nat.le_refl _)))
    (fun w' hb => text_any n1 n2 r s p3 c3 q3 w' h4 h5 (hr3.grow hb (Nat.le_refl _)) hc3)
    (fun w' hb => tclash_any n1 i1 l1 p1 q1 c1 n2 i2 l2 p2 q2 c2 p3 q3 c3 w' hl1 hl2 (hr1.grow hb (Nat.le_refl _)) (hr2.grow hb (Nat.le_refl _)) (hr3.grow hb (Nat.le_refl _)) hc3) ?_ ?_ ?_
  · intro hc
    rcases clashA_or n1 i1 l1 q1 n2 i2 l2 q2 q3 with ⟨a, b, he, ha, hb, hl⟩ | ⟨e, he, hn⟩
    · rw [he]
      exact ⟨ha, hb, hl⟩
    · rw [he] at hc
      exact absurd hc hn
  · intro hc
    rcases clashA_or n1 i1 l1 q1 n2 i2 l2 q2 q3 with ⟨a, b, he, _⟩ | ⟨e, he, _⟩
    · rw [he] at hc
      exact absurd rfl hc
    · rw [he]
      exact ⟨rfl, rfl⟩
  · intro hc hf hg hh hi
    subst hi
    rcases sound_plain n1 i1 l1 q1 n2 l2 q2 q3 r s hf hg hh with ⟨a, b, he, _⟩ | ⟨he, hl⟩
    · rw [he] at hc
      exact absurd rfl hc
    · rw [he]
      exact ⟨hl, rfl⟩
end Go.Proofs.Ytkhnjipjbhcgdab
