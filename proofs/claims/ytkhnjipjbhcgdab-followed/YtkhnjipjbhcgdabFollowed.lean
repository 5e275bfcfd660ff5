import Derived.Test.YtkhnjipjbhcgdabFollowed1
/-
  THE WALK of treeheadkeep.Followed.
-/
namespace Go.Proofs.Ytkhnjipjbhcgdab
open Go.RowKit Hp

theorem tmod_nat (k : Nat) : (k : Int).tmod 1000 = ((k % 1000 : Nat) : Int) := by
  rw [Int.tmod_eq_emod_of_nonneg (by omega)]
  omega

set_option maxRecDepth 100000 in
set_option maxHeartbeats 8000000 in
theorem followed_row (p : Option Addr) (cap : Nat) (ss : List ByteArray) (q : Option Addr) (capq : Nat) (ns : List Int) (c : Int) (w : World) (hr : Row w p ss) (hq : NRow w q ns) (hc : Fits c) :
    Calls Try.prog 5 #[.slice p ss.length cap, .slice q ns.length capq, .int .i64 c] w fun e w' => e = .returned (.bool true) ∧ Below w.heap.size w w' := by
  have HR : Hid _ := hr
  have HQ : Hid _ := hq
  have hnl : ns.length ≤ 9223372036854775807 := hq.len
  obtain ⟨hK, _, _⟩ := sign_open 7 1 0 (Pl.root []) (by omega) (by omega) (by omega) (by omega) (Pl.root_isSum _)
  have HKey : Hid (∀ w, Calls Try.prog 10 #[.int .i64 7] w fun e w' => e = .returned (.tuple #[.int .i64 (Pl.powM 4 7 : Nat), .int .i64 0]) ∧ Below w.heap.size w w') := fun w => by
    have := tkey_any 7 w
    rwa [key7] at this
  have HOp : Hid (∀ n z r, n ≤ 1018 → z ≤ 40 → Pl.isSumB r = true → openE (Pl.powM 4 7 : Nat) (Pl.signT 7 n z r) = 0 ∧ openSize (Pl.powM 4 7 : Nat) (Pl.signT 7 n z r) = z ∧ openRoot (Pl.powM 4 7 : Nat) (Pl.signT 7 n z r) = r) := fun n z r h1 h2 h3 => sign_openE 7 n z r (by omega) (by omega) h1 h2 h3
  have HWa : Hid _ := fun w => twatch_yes (Pl.powM 4 7 : Nat) w hK
  clear hr hq hK
  generalize Pl.powM 4 7 = K at *
  go_enter Try.func5, Try.ntmps5
  go_wp2_with fail
  refine (leaves_any p cap ss 39 w HR.out (by omega)).mono ?_
  rintro e w1 ⟨v, rfl, ho, hb1⟩
  have hl1 : (lv ss (min 39 ss.length)).length = min 39 ss.length + 1 := lv_length _ _ (Nat.min_le_right _ _)
  have hlo : 1 ≤ (lv ss (min 39 ss.length)).length ∧ (lv ss (min 39 ss.length)).length ≤ 40 := by omega
  have hzs := lv_sizes ss (min 39 ss.length)
  clear hl1
  generalize lv ss (min 39 ss.length) = L at *
  obtain ⟨hL1, hL2⟩ := hlo
  obtain ⟨g, cp, rfl, _, hcp, hcm, hrow⟩ := ho.open (by intro h; rw [h] at hL1; simp at hL1) (fun s hs => Nat.le_trans (hzs s hs) (by decide)) (le_max hL2)
  have HZ : Hid (∀ s ∈ L, s.size ≤ 30) := hzs
  clear ho hzs
  go_wp2_with fail
  refine (HKey.out _).mono ?_
  rintro e w2 ⟨rfl, hb2⟩
  go_wp2_with fail
  refine (HWa.out _).mono ?_
  rintro e w3 ⟨rfl, hwt, hb3⟩
  have k2 := hb1.trans (hb2.mono hb1.size)
  have k3 := k2.trans (hb3.mono k2.size)
  have hrow3 := (hrow.grow hb2 (Nat.le_refl _)).grow hb3 (Nat.le_refl _)
  have hF : w.heap.size ≤ w2.heap.size + 1 := by have := k2.size; omega
  have hgF : g ≠ w2.heap.size + 1 := by
    have := (hrow.grow hb2 (Nat.le_refl _)).lt g 0 (by intro h; rw [h] at hL1; simp at hL1) rfl
    omega
  have hCw : w.heap.size ≤ w2.heap.size := k2.size
  have H0 : Hid (Wt w3 (w2.heap.size + 1) w2.heap.size none K 0 (Pl.root (L.take 0)) (decide (0 < 0)) false) := ⟨hwt.box, hwt.chan, Or.inl ⟨rfl, rfl⟩⟩
  have HR0 : Hid (Row w3 (some ⟨g, 0, none⟩) L) := hrow3
  have HB0 : Hid (Below w.heap.size w w3) := k3
  clear hb1 hb2 hb3 k2 k3 hrow hrow3 hwt HKey HWa
  generalize w2.heap.size + 1 = F at *
  generalize w2.heap.size = C at *
  go_wp2_with fail
  go_loopw [9, 12, 13] (fun e m i wr => ∃ (k m' : Nat) (sp : Option Addr), k ≤ ns.length + 1 ∧ k ≤ m' ∧ m' ≤ L.length ∧ e = .int .i64 0 ∧ m = .int .i64 m' ∧ i = .int .i64 k ∧ Hid (Wt wr F C sp K m' (Pl.root (L.take m')) (decide (0 < m')) false) ∧ Hid (Row wr (some ⟨g, 0, none⟩) L) ∧ Hid (Below w.heap.size w wr)) (fun _ _ i _ => ns.length + 1 - (intOf i).toNat)
  case atStart => exact ⟨0, 0, none, by omega, Nat.le_refl _, by omega, rfl, rfl, rfl, H0, HR0, HB0⟩
  case round =>
    obtain ⟨k, m', sp, hk, hkm, hm', rfl, rfl, rfl, HW, HRo, HB⟩ := hrel
    clear H0 HR0 HB0
    by_cases hlt : k ≤ ns.length ∧ m' < L.length
    · obtain ⟨hk1, hm1⟩ := hlt
      go_upto_if 69 with fail
      go_cut [14] (fun n wx => ∃ N : Nat, n = .int .i64 N ∧ m' < N ∧ N ≤ L.length ∧ wx = wr)
      case first =>
        by_cases hks : k < ns.length
        · rcases (HQ.out.grow HB.out).cell with h0 | ⟨b, o, rfl, _, hcell⟩
          · rw [h0] at hks; simp at hks
          have hck := hcell k hks
          have hft := HQ.out.fits _ (List.getElem_mem hks)
          clear hcell
          generalize ns[k] = x at *
          obtain ⟨z, hz⟩ : ∃ z : Nat, pickOf x ((L.length : Int) - (m' : Int)) = (z : Int) := ⟨(pickOf x ((L.length : Int) - (m' : Int))).toNat, by have := pickOf_nonneg x ((L.length : Int) - (m' : Int)) (by omega); omega⟩
          have hzl : (z : Int) < (L.length : Int) - (m' : Int) := by have := pickOf_lt x ((L.length : Int) - (m' : Int)) (by omega); omega
          have HPx : Hid (∀ w, Calls Try.prog 8 #[.int .i64 x, .int .i64 ((L.length : Int) - (m' : Int))] w fun e w' => e = .returned (.int .i64 z) ∧ w' = w) := fun w => by
            have := pick_any x ((L.length : Int) - (m' : Int)) w hft (by omega) (by omega)
            rwa [hz] at this
          clear hz
          go_wp2_with fail
          refine (HPx.out _).mono ?_
          rintro e x1 ⟨rfl, rfl⟩
          go_wp2_with fail
          go_meet
          exact ⟨m' + 1 + z, val_int (by omega), by omega, by omega, rfl⟩
        · have hkn : ¬ (k : Int) < (ns.length : Int) := by omega
          go_wp2_with fail
          go_meet
          exact ⟨L.length, rfl, hm1, Nat.le_refl _, rfl⟩
      case rest =>
      obtain ⟨N, rfl, hN1, hN2, rfl⟩ := hcut
      by_cases hm0 : m' = 0
      · subst hm0
        have HMa : Hid (∀ w', Row w' (some ⟨g, 0, none⟩) L → Calls Try.prog 17 #[.slice (some ⟨g, 0, none⟩) N cp, .int .i64 7, .int .i64 (1 + (k : Int).tmod 1000)] w' fun e w'' => e = .returned (.tuple #[.string (Pl.signT 7 (1 + k % 1000) N (Pl.root (L.take N))), .string (Pl.root (L.take N)), .int .i64 0]) ∧ Below w'.heap.size w' w'') := fun w' h => by
          have := made_any (some ⟨g, 0, none⟩) cp N (L.take N) (1 + k % 1000) w' (by rw [List.length_take]; omega) (h.take N) (by omega) hcm (by omega) (fun s hs => HZ.out s (List.mem_of_mem_take hs)) (by omega) (by omega)
          rwa [show ((1 + k % 1000 : Nat) : Int) = 1 + (k : Int).tmod 1000 by rw [tmod_nat]; omega] at this
        obtain ⟨o1, o2, o3⟩ := HOp.out (1 + k % 1000) N (Pl.root (L.take N)) (by omega) (by omega) (Pl.root_isSum _)
        have HO1 : Hid _ := o1
        have HO2 : Hid _ := o2
        have HO3 : Hid _ := o3
        have HGo : Hid _ := goes_made L 0 N hN1 hN2 hL2
        have hln : (L.take N).length = N := by rw [List.length_take]; omega
        have okN : okB (L.take N) = true := okB_mk (by omega) (fun s hs => HZ.out s (List.mem_of_mem_take hs))
        obtain ⟨a, ha⟩ : ∃ a : Nat, pickOf c N = (a : Int) := ⟨(pickOf c N).toNat, by have := pickOf_nonneg c N (by omega); omega⟩
        have haN : a < N := by have := pickOf_lt c N (by omega); omega
        have haL : a < L.length := Nat.lt_of_lt_of_le haN hN2
        have HPk : Hid (∀ w, Calls Try.prog 8 #[.int .i64 c, .int .i64 N] w fun e w' => e = .returned (.int .i64 a) ∧ w' = w) := fun w => by
          have := pick_any c N w hc (by omega) (by omega)
          rwa [ha] at this
        have HIn : Hid (∀ w', Row w' (some ⟨g, 0, none⟩) L → Calls Try.prog 21 #[.slice (some ⟨g, 0, none⟩) N cp, .int .i64 a] w' fun e w'' => ∃ v, e = .returned (.tuple #[v, .int .i64 0]) ∧ Own w'' w'.heap.size v (Pl.path (L.take N) a) ∧ Below w'.heap.size w' w'') := fun w' h => by
          have := tincl_yes (some ⟨g, 0, none⟩) cp (L.take N) (a : Int) w' (by omega) hcm (h.take N) (by unfold inclB; rw [okN, hln]; simp; omega)
          rwa [Int.toNat_natCast, hln] at this
        have HCe : Hid (∀ w', Row w' (some ⟨g, 0, none⟩) L → w'.cell? ⟨g, a, none⟩ = some (.string (L[a]'haL))) := fun w' h => by
          have := h.cellAt a (by omega)
          rwa [Nat.zero_add] at this
        have hLa : (L[a]'haL).size ≤ maxLen := Nat.le_trans (HZ.out _ (List.getElem_mem _)) (by decide)
        have hHo := holds_made L N a haN hN2 hL2 HZ.out
        have HHo : Hid (∀ S p cap w', Wt w' F C (some ⟨S, 0, none⟩) K N (Pl.root (L.take N)) true false → Row w' p (Pl.path (L.take N) a) → Calls Try.prog 22 #[.pointer (some ⟨F, 0, none⟩), .agg #[.int .i64 N, .int .i64 a, .string (L[a]'haL), .slice p (Pl.path (L.take N) a).length cap]] w' fun e w'' => e = .returned (.int .i64 0) ∧ Below w'.heap.size w' w'') := fun S p cap w' hw hr => by
          have := tholds_any F C (some ⟨S, 0, none⟩) K N (Pl.root (L.take N)) true false N a (L[a]'haL) p cap (Pl.path (L.take N) a) w' hw (root_le _) hLa hr
          rwa [hHo] at this
        have hP4 := Pl.path_sizes (L.take N).length (L.take N) a (Nat.le_refl _)
        have hPl := Pl.path_length (L.take N).length (L.take N) a (Nat.le_refl _)
        rw [hln] at hPl
        have HP4 : Hid _ := hP4
        have HUp : Hid (∀ p cap w', Wt w' F C sp K 0 (Pl.root (L.take 0)) (decide (0 < 0)) false → Row w' p (pathTo L 0 N) → (pathTo L 0 N).length ≤ cap → Calls Try.prog 19 #[.pointer (some ⟨F, 0, none⟩), .string (Pl.signT 7 (1 + k % 1000) N (Pl.root (L.take N))), .slice p (pathTo L 0 N).length cap] w' fun e w'' => e = .returned (.int .i64 0) ∧ ∃ S, w'.heap.size ≤ S ∧ Wt w'' F C (some ⟨S, 0, none⟩) K N (Pl.root (L.take N)) true false ∧ Turn (fun j => j = F) w' w'') := fun p cap w' hw hr hpc =>
          tupdate_yes F C sp K 0 (Pl.root (L.take 0)) (decide (0 < 0)) (Pl.signT 7 (1 + k % 1000) N (Pl.root (L.take N))) p cap (pathTo L 0 N) w' hw (root_le _) hr hpc HO1.out N (Pl.root (L.take N)) HO2.out HO3.out (by rintro ⟨_, h⟩; omega) HGo.out
        have hpe : pathTo L 0 N = [] := rfl
        rw [hpe] at HUp
        have HRn : Hid (decide (0 < N) = true) := decide_eq_true (by omega)
        clear HOp HO1 HO2 HO3 HGo o1 o2 o3 ha okN hHo hP4 hLa HZ hln
        generalize Pl.signT 7 (1 + k % 1000) N (Pl.root (L.take N)) = BB at *
        generalize hRR : Pl.root (L.take N) = RR at *
        have HRR : Hid _ := hRR
        clear hRR
        generalize Pl.path (L.take N) a = PA at *
        generalize L[a]'haL = LA at *
        go_wp2_with fail
        refine (HMa.out _ HRo.out).mono ?_
        rintro e x1 ⟨rfl, y1⟩
        have HRo1 : Hid _ := HRo.out.grow y1 (Nat.le_refl _)
        have HW1 : Hid _ := Wt.grow HW.out y1
        have HB1 : Hid _ := HB.out.trans (y1.mono HB.out.size)
        clear y1 HRo HW HB HMa
        go_wp2_with fail
        have HRo2 := HRo1
        have HB2 := HB1
        refine (HUp.out none 0 _ HW1.out (row_nil _) (by simp)).mono ?_
        clear HRo1 HB1 HW1
        rintro e x3 ⟨rfl, S, hS3, hw3, ht3⟩
        have HRo3 : Hid _ := HRo2.out.turn ht3 (fun b o _ he h => by
          simp only [Option.some.injEq, Addr.mk.injEq, and_true] at he
          exact hgF (he.1.trans h))
        have HB3 : Hid (Below w.heap.size w x3) := HB2.out.trans (ht3.below (fun j h => by rw [h]; exact hF) HB2.out.size)
        have HW3 : Hid (Wt x3 F C (some ⟨S, 0, none⟩) K N RR true false) := hw3
        have HHd : Hid _ := thead_any F C (some ⟨S, 0, none⟩) K N RR true false x3 hw3
        clear ht3 hw3 HRo2 HB2 HUp hS3
        go_wp2_with fail
        refine Calls.mono HHd.out ?_
        rintro e x4 ⟨rfl, y4⟩
        simp only [if_true]
        have HRo4 : Hid _ := (HRo3.out.grow y4 (Nat.le_refl _)).grow ((Below.refl _ _).alloc (Nat.le_refl _) (.cells #[.int .i64 N, .string RR] 27)) (Nat.le_refl _)
        have HW4 : Hid _ := Wt.grow (Wt.grow HW3.out y4) ((Below.refl _ _).alloc (Nat.le_refl _) (.cells #[.int .i64 N, .string RR] 27))
        have k4 := HB3.out.trans (y4.mono HB3.out.size)
        have HB4 : Hid _ := k4.alloc k4.size (.cells #[.int .i64 N, .string RR] 27)
        have HBx : Hid (Box (x4.alloc (.cells #[.int .i64 N, .string RR] 27)) x4.heap.size 27 [.int .i64 N, .string RR]) := Box.new x4 27 [.int .i64 N, .string RR]
        clear y4 HRo3 HW3 HB3 HHd k4
        go_upto_region 19 with fail
        generalize x4.alloc (.cells #[.int .i64 N, .string RR] 27) = x5 at *
        generalize x4.heap.size = HH at *
        go_wp2_with fail
        refine (HPk.out _).mono ?_
        rintro e x6 ⟨rfl, rfl⟩
        go_wp2_with fail
        refine (HIn.out _ HRo4.out).mono ?_
        rintro e x7 ⟨v7, rfl, o7, y7⟩
        obtain ⟨p7, c7, rfl, hc7, _, r7, _⟩ := o7.any HP4.out (by unfold maxLen; omega)
        have HRo7 : Hid _ := HRo4.out.grow y7 (Nat.le_refl _)
        have HW7 : Hid _ := Wt.grow HW4.out y7
        have HB7 : Hid _ := HB4.out.trans (y7.mono HB4.out.size)
        have HBx7 : Hid _ := Box.grow HBx.out y7 (Box.lt HBx.out)
        have cL := HCe.out _ HRo7.out
        have HR7 : Hid _ := r7
        clear y7 o7 r7 HRo4 HW4 HB4 HBx HIn HPk HP4
        go_wp2_with fail
        refine (HHo.out S _ _ _ HW7.out HR7.out).mono ?_
        rintro e x8 ⟨rfl, y8⟩
        have HRo8 : Hid _ := HRo7.out.grow y8 (Nat.le_refl _)
        have HW8 : Hid _ := Wt.grow HW7.out y8
        have HB8 : Hid _ := HB7.out.trans (y8.mono HB7.out.size)
        have hbx := Box.grow HBx7.out y8 (Box.lt HBx7.out)
        have b0 := hbx.cell 0
        have b1 := hbx.cell 1
        clear y8 HRo7 HW7 HB7 HBx7 hbx cL HCe HHo
        go_wp2_with fail
        go_roundw
        case rel =>
          refine ⟨k + 1, N, some ⟨S, 0, none⟩, by omega, by omega, hN2, rfl, rfl, by go_num, ?_, HRo8, HB8⟩
          show Wt _ _ _ _ _ _ _ _ _
          rw [HRR.out, HRn.out]
          exact HW8.out
        case measure => simp [intOf]; omega
      · have hmp : (0 : Int) < (m' : Int) := by omega
        have HMa : Hid (∀ w', Row w' (some ⟨g, 0, none⟩) L → Calls Try.prog 17 #[.slice (some ⟨g, 0, none⟩) N cp, .int .i64 7, .int .i64 (1 + (k : Int).tmod 1000)] w' fun e w'' => e = .returned (.tuple #[.string (Pl.signT 7 (1 + k % 1000) N (Pl.root (L.take N))), .string (Pl.root (L.take N)), .int .i64 0]) ∧ Below w'.heap.size w' w'') := fun w' h => by
          have := made_any (some ⟨g, 0, none⟩) cp N (L.take N) (1 + k % 1000) w' (by rw [List.length_take]; omega) (h.take N) (by omega) hcm (by omega) (fun s hs => HZ.out s (List.mem_of_mem_take hs)) (by omega) (by omega)
          rwa [show ((1 + k % 1000 : Nat) : Int) = 1 + (k : Int).tmod 1000 by rw [tmod_nat]; omega] at this
        obtain ⟨o1, o2, o3⟩ := HOp.out (1 + k % 1000) N (Pl.root (L.take N)) (by omega) (by omega) (Pl.root_isSum _)
        have HO1 : Hid _ := o1
        have HO2 : Hid _ := o2
        have HO3 : Hid _ := o3
        have HGo : Hid _ := goes_made L m' N hN1 hN2 hL2
        have hln : (L.take N).length = N := by rw [List.length_take]; omega
        have okN : okB (L.take N) = true := okB_mk (by omega) (fun s hs => HZ.out s (List.mem_of_mem_take hs))
        obtain ⟨a, ha⟩ : ∃ a : Nat, pickOf c N = (a : Int) := ⟨(pickOf c N).toNat, by have := pickOf_nonneg c N (by omega); omega⟩
        have haN : a < N := by have := pickOf_lt c N (by omega); omega
        have haL : a < L.length := Nat.lt_of_lt_of_le haN hN2
        have HPk : Hid (∀ w, Calls Try.prog 8 #[.int .i64 c, .int .i64 N] w fun e w' => e = .returned (.int .i64 a) ∧ w' = w) := fun w => by
          have := pick_any c N w hc (by omega) (by omega)
          rwa [ha] at this
        have HIn : Hid (∀ w', Row w' (some ⟨g, 0, none⟩) L → Calls Try.prog 21 #[.slice (some ⟨g, 0, none⟩) N cp, .int .i64 a] w' fun e w'' => ∃ v, e = .returned (.tuple #[v, .int .i64 0]) ∧ Own w'' w'.heap.size v (Pl.path (L.take N) a) ∧ Below w'.heap.size w' w'') := fun w' h => by
          have := tincl_yes (some ⟨g, 0, none⟩) cp (L.take N) (a : Int) w' (by omega) hcm (h.take N) (by unfold inclB; rw [okN, hln]; simp; omega)
          rwa [Int.toNat_natCast, hln] at this
        have HCe : Hid (∀ w', Row w' (some ⟨g, 0, none⟩) L → w'.cell? ⟨g, a, none⟩ = some (.string (L[a]'haL))) := fun w' h => by
          have := h.cellAt a (by omega)
          rwa [Nat.zero_add] at this
        have hLa : (L[a]'haL).size ≤ maxLen := Nat.le_trans (HZ.out _ (List.getElem_mem _)) (by decide)
        have hHo := holds_made L N a haN hN2 hL2 HZ.out
        have HHo : Hid (∀ S p cap w', Wt w' F C (some ⟨S, 0, none⟩) K N (Pl.root (L.take N)) true false → Row w' p (Pl.path (L.take N) a) → Calls Try.prog 22 #[.pointer (some ⟨F, 0, none⟩), .agg #[.int .i64 N, .int .i64 a, .string (L[a]'haL), .slice p (Pl.path (L.take N) a).length cap]] w' fun e w'' => e = .returned (.int .i64 0) ∧ Below w'.heap.size w' w'') := fun S p cap w' hw hr => by
          have := tholds_any F C (some ⟨S, 0, none⟩) K N (Pl.root (L.take N)) true false N a (L[a]'haL) p cap (Pl.path (L.take N) a) w' hw (root_le _) hLa hr
          rwa [hHo] at this
        have hP4 := Pl.path_sizes (L.take N).length (L.take N) a (Nat.le_refl _)
        have hPl := Pl.path_length (L.take N).length (L.take N) a (Nat.le_refl _)
        rw [hln] at hPl
        have HP4 : Hid _ := hP4
        have HEx : Hid (∀ w', Row w' (some ⟨g, 0, none⟩) L → Calls Try.prog 18 #[.slice (some ⟨g, 0, none⟩) N cp, .int .i64 m'] w' fun e w'' => ∃ v, e = .returned (.tuple #[v, .int .i64 0]) ∧ Own w'' w'.heap.size v (pathTo L m' N) ∧ Below w'.heap.size w' w'') := fun w' h => by
          have := text_yes (some ⟨g, 0, none⟩) cp (L.take N) (m' : Int) w' (by omega) hcm (h.take N) (by unfold extB; rw [okN, hln]; simp; omega)
          rw [Int.toNat_natCast, hln] at this
          unfold pathTo
          rw [if_neg hm0]
          exact this
        have hX4 : ∀ s ∈ pathTo L m' N, s.size = 4 := by
          unfold pathTo
          rw [if_neg hm0]
          exact Pl.parts_sizes (L.take N).length (L.take N) m' true (Nat.le_refl _) (by omega) (by omega)
        have hXl : (pathTo L m' N).length ≤ 40 := by
          unfold pathTo
          rw [if_neg hm0]
          have := Pl.parts_length (L.take N).length (L.take N) m' true (Nat.le_refl _) (by omega) (by omega)
          omega
        have HX4 : Hid _ := hX4
        have hdt : decide (0 < m') = true := decide_eq_true (by omega)
        have HUp : Hid (∀ p cap w', Wt w' F C sp K m' (Pl.root (L.take m')) (decide (0 < m')) false → Row w' p (pathTo L m' N) → (pathTo L m' N).length ≤ cap → Calls Try.prog 19 #[.pointer (some ⟨F, 0, none⟩), .string (Pl.signT 7 (1 + k % 1000) N (Pl.root (L.take N))), .slice p (pathTo L m' N).length cap] w' fun e w'' => e = .returned (.int .i64 0) ∧ ∃ S, w'.heap.size ≤ S ∧ Wt w'' F C (some ⟨S, 0, none⟩) K N (Pl.root (L.take N)) true false ∧ Turn (fun j => j = F) w' w'') := fun p cap w' hw hr hpc =>
          tupdate_yes F C sp K m' (Pl.root (L.take m')) (decide (0 < m')) (Pl.signT 7 (1 + k % 1000) N (Pl.root (L.take N))) p cap (pathTo L m' N) w' hw (root_le _) hr hpc HO1.out N (Pl.root (L.take N)) HO2.out HO3.out (by rintro ⟨_, h⟩; omega) HGo.out
        have HRn : Hid (decide (0 < N) = true) := decide_eq_true (by omega)
        clear HOp HO1 HO2 HO3 HGo o1 o2 o3 ha okN hHo hP4 hLa HZ hln
        generalize Pl.signT 7 (1 + k % 1000) N (Pl.root (L.take N)) = BB at *
        generalize hRR : Pl.root (L.take N) = RR at *
        have HRR : Hid _ := hRR
        clear hRR
        generalize Pl.path (L.take N) a = PA at *
        generalize L[a]'haL = LA at *
        generalize pathTo L m' N = PP at *
        go_wp2_with fail
        refine (HMa.out _ HRo.out).mono ?_
        rintro e x1 ⟨rfl, y1⟩
        have HRo1 : Hid _ := HRo.out.grow y1 (Nat.le_refl _)
        have HW1 : Hid _ := Wt.grow HW.out y1
        have HB1 : Hid _ := HB.out.trans (y1.mono HB.out.size)
        clear y1 HRo HW HB HMa
        go_wp2_with fail
        refine (HEx.out _ HRo1.out).mono ?_
        rintro e x2 ⟨v9, rfl, o9, y2⟩
        obtain ⟨p9, c9, rfl, hc9, _, r9, _⟩ := o9.any HX4.out (by unfold maxLen; omega)
        have HRo2 : Hid _ := HRo1.out.grow y2 (Nat.le_refl _)
        have HW2 : Hid _ := Wt.grow HW1.out y2
        have HB2 : Hid _ := HB1.out.trans (y2.mono HB1.out.size)
        have HR9 : Hid _ := r9
        clear y2 HRo1 HW1 HB1 HEx HX4 o9 r9
        go_wp2_with fail
        refine (HUp.out _ _ _ HW2.out HR9.out hc9).mono ?_
        rintro e x3 ⟨rfl, S, hS3, hw3, ht3⟩
        have HRo3 : Hid _ := HRo2.out.turn ht3 (fun b o _ he h => by
          simp only [Option.some.injEq, Addr.mk.injEq, and_true] at he
          exact hgF (he.1.trans h))
        have HB3 : Hid (Below w.heap.size w x3) := HB2.out.trans (ht3.below (fun j h => by rw [h]; exact hF) HB2.out.size)
        have HW3 : Hid (Wt x3 F C (some ⟨S, 0, none⟩) K N RR true false) := hw3
        have HHd : Hid _ := thead_any F C (some ⟨S, 0, none⟩) K N RR true false x3 hw3
        clear ht3 hw3 HRo2 HB2 HUp hS3
        go_wp2_with fail
        refine Calls.mono HHd.out ?_
        rintro e x4 ⟨rfl, y4⟩
        simp only [if_true]
        have HRo4 : Hid _ := (HRo3.out.grow y4 (Nat.le_refl _)).grow ((Below.refl _ _).alloc (Nat.le_refl _) (.cells #[.int .i64 N, .string RR] 27)) (Nat.le_refl _)
        have HW4 : Hid _ := Wt.grow (Wt.grow HW3.out y4) ((Below.refl _ _).alloc (Nat.le_refl _) (.cells #[.int .i64 N, .string RR] 27))
        have k4 := HB3.out.trans (y4.mono HB3.out.size)
        have HB4 : Hid _ := k4.alloc k4.size (.cells #[.int .i64 N, .string RR] 27)
        have HBx : Hid (Box (x4.alloc (.cells #[.int .i64 N, .string RR] 27)) x4.heap.size 27 [.int .i64 N, .string RR]) := Box.new x4 27 [.int .i64 N, .string RR]
        clear y4 HRo3 HW3 HB3 HHd k4
        go_upto_region 19 with fail
        generalize x4.alloc (.cells #[.int .i64 N, .string RR] 27) = x5 at *
        generalize x4.heap.size = HH at *
        go_wp2_with fail
        refine (HPk.out _).mono ?_
        rintro e x6 ⟨rfl, rfl⟩
        go_wp2_with fail
        refine (HIn.out _ HRo4.out).mono ?_
        rintro e x7 ⟨v7, rfl, o7, y7⟩
        obtain ⟨p7, c7, rfl, hc7, _, r7, _⟩ := o7.any HP4.out (by unfold maxLen; omega)
        have HRo7 : Hid _ := HRo4.out.grow y7 (Nat.le_refl _)
        have HW7 : Hid _ := Wt.grow HW4.out y7
        have HB7 : Hid _ := HB4.out.trans (y7.mono HB4.out.size)
        have HBx7 : Hid _ := Box.grow HBx.out y7 (Box.lt HBx.out)
        have cL := HCe.out _ HRo7.out
        have HR7 : Hid _ := r7
        clear y7 o7 r7 HRo4 HW4 HB4 HBx HIn HPk HP4
        go_wp2_with fail
        refine (HHo.out S _ _ _ HW7.out HR7.out).mono ?_
        rintro e x8 ⟨rfl, y8⟩
        have HRo8 : Hid _ := HRo7.out.grow y8 (Nat.le_refl _)
        have HW8 : Hid _ := Wt.grow HW7.out y8
        have HB8 : Hid _ := HB7.out.trans (y8.mono HB7.out.size)
        have hbx := Box.grow HBx7.out y8 (Box.lt HBx7.out)
        have b0 := hbx.cell 0
        have b1 := hbx.cell 1
        clear y8 HRo7 HW7 HB7 HBx7 hbx cL HCe HHo
        go_wp2_with fail
        go_roundw
        case rel =>
          refine ⟨k + 1, N, some ⟨S, 0, none⟩, by omega, by omega, hN2, rfl, rfl, by go_num, ?_, HRo8, HB8⟩
          show Wt _ _ _ _ _ _ _ _ _
          rw [HRR.out, HRn.out]
          exact HW8.out
        case measure => simp [intOf]; omega
    · have hor : ¬ k ≤ ns.length ∨ (k ≤ ns.length ∧ ¬ m' < L.length) := by
        by_cases h : k ≤ ns.length
        · exact Or.inr ⟨h, fun h2 => hlt ⟨h, h2⟩⟩
        · exact Or.inl h
      clear hlt
      by_cases h2 : m' < 2
      · rcases hor with h1 | ⟨h1, h3⟩
        all_goals
          go_wp2_with fail
          go_ret
          exact ⟨rfl, HB.out⟩
      · obtain ⟨r, rfl⟩ : ∃ r, m' = r + 1 := ⟨m' - 1, by omega⟩
        have hdt : decide (0 < r + 1) = true := decide_eq_true (by omega)
        rw [hdt] at HW
        obtain ⟨S, rfl⟩ : ∃ S, sp = some ⟨S, 0, none⟩ := by
          rcases HW.out.head with ⟨h0, _⟩ | ⟨_, S, h0, _⟩
          · cases h0
          · exact ⟨S, h0⟩
        have HMa : Hid (∀ w', Row w' (some ⟨g, 0, none⟩) L → Calls Try.prog 17 #[.slice (some ⟨g, 0, none⟩) r cp, .int .i64 7, .int .i64 5] w' fun e w'' => e = .returned (.tuple #[.string (Pl.signT 7 5 r (Pl.root (L.take r))), .string (Pl.root (L.take r)), .int .i64 0]) ∧ Below w'.heap.size w' w'') := fun w' h =>
          made_any (some ⟨g, 0, none⟩) cp r (L.take r) 5 w' (by rw [List.length_take]; omega) (h.take r) (by omega) hcm (by omega) (fun s hs => HZ.out s (List.mem_of_mem_take hs)) (by omega) (by omega)
        obtain ⟨o1, o2, o3⟩ := HOp.out 5 r (Pl.root (L.take r)) (by omega) (by omega) (Pl.root_isSum _)
        have HU1 : Hid (∀ w', Wt w' F C (some ⟨S, 0, none⟩) K (r + 1) (Pl.root (L.take (r + 1))) true false → Calls Try.prog 19 #[.pointer (some ⟨F, 0, none⟩), .string (Pl.signT 7 5 r (Pl.root (L.take r))), .slice none 0 0] w' fun e w'' => e = .returned (.int .i64 5) ∧ Below w'.heap.size w' w'') := fun w' hw =>
          tupdate_old F C S K (r + 1) (Pl.root (L.take (r + 1))) _ (.slice none 0 0) w' hw o1 (by rw [o2]; omega)
        have HU2 : Hid (∀ w', Wt w' F C (some ⟨S, 0, none⟩) K (r + 1) (Pl.root (L.take (r + 1))) true true → Calls Try.prog 19 #[.pointer (some ⟨F, 0, none⟩), .string (Pl.signT 7 5 r (Pl.root (L.take r))), .slice none 0 0] w' fun e w'' => e = .returned (.int .i64 10) ∧ w'' = w') := fun w' hw =>
          tupdate_closed F C (some ⟨S, 0, none⟩) K (r + 1) (Pl.root (L.take (r + 1))) true _ (.slice none 0 0) w' hw
        have HCl : Hid (∀ w', Wt w' F C (some ⟨S, 0, none⟩) K (r + 1) (Pl.root (L.take (r + 1))) true false → Calls Try.prog 23 #[.pointer (some ⟨F, 0, none⟩)] w' fun e w'' => e = .returned (.tuple #[]) ∧ Wt w'' F C (some ⟨S, 0, none⟩) K (r + 1) (Pl.root (L.take (r + 1))) true true ∧ Turn (fun j => j = C) w' w'') := fun w' hw =>
          tclose_any F C (some ⟨S, 0, none⟩) K (r + 1) (Pl.root (L.take (r + 1))) true false w' hw hw.ne.1 hw.ne.2
        clear o1 o2 o3 HOp HZ hdt
        generalize Pl.signT 7 5 r (Pl.root (L.take r)) = BB at *
        generalize Pl.root (L.take r) = R1 at *
        generalize Pl.root (L.take (r + 1)) = R2 at *
        rcases hor with h1 | ⟨h1, h3⟩
        all_goals
          go_wp2_with fail
          refine (HMa.out _ HRo.out).mono ?_
          rintro e x1 ⟨rfl, y1⟩
          have HW1 : Hid _ := Wt.grow HW.out y1
          have k1 := HB.out.trans (y1.mono HB.out.size)
          clear y1
          go_wp2_with fail
          refine (HU1.out _ HW1.out).mono ?_
          rintro e x2 ⟨rfl, y2⟩
          have HW2 : Hid _ := Wt.grow HW1.out y2
          have k2 := k1.trans (y2.mono k1.size)
          clear y2
          go_wp2_with fail
          refine (HCl.out _ HW2.out).mono ?_
          rintro e x3 ⟨rfl, hw3, ht3⟩
          have k3 := k2.trans (ht3.below (B := w.heap.size) (fun j h => by rw [h]; exact hCw) k2.size)
          have HW3 : Hid (Wt x3 F C (some ⟨S, 0, none⟩) K (r + 1) R2 true true) := hw3
          clear hw3 ht3
          go_wp2_with fail
          refine (HU2.out _ HW3.out).mono ?_
          rintro e x4 ⟨rfl, rfl⟩
          go_wp2_with fail
          go_ret
          exact ⟨rfl, k3⟩

theorem followed_walk (v : Value) (ss : List ByteArray) (v2 : Value) (ns : List Int) (c : Int) (w : World) (hr : IsRow w v ss) (h2 : IsNums w v2 ns) (h3 : Fits c) :
    Calls Try.prog 5 #[v, v2, .int .i64 c] w fun e w' => e = .returned (.bool true) ∧ Below w.heap.size w w' := by
  obtain ⟨q, cq, rfl, hq⟩ := h2
  rcases hr with ⟨rfl, rfl⟩ | ⟨a, cap, rfl, _, _, hr⟩
  · exact followed_row none 0 [] q cq ns c w (row_nil w) hq h3
  · exact followed_row (some a) cap ss q cq ns c w hr hq h3
end Go.Proofs.Ytkhnjipjbhcgdab
