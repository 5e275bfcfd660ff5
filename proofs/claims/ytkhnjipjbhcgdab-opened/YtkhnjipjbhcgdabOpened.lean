/-
  THE WALK of treeheadkeep.Opened.
-/
import Derived.Test.YtkhnjipjbhcgdabOpened1
import Derived.Test.YtkhnjipjbhcgdabGuilty
import Derived.Lib.ConvBytes
import Derived.BigRegion
namespace Go.Proofs.Ytkhnjipjbhcgdab
open Go.RowKit Hp

theorem open_to (k : Int) (b : ByteArray) (n : Nat) (r : ByteArray) (x : Int) (w : World) (h1 : openSize k b = n) (h2 : openRoot k b = r) (h3 : openE k b = x) :
    Calls Try.prog 12 #[.int .i64 k, .string b] w fun e w' => e = .returned (.tuple #[.agg #[.int .i64 n, .string r], .int .i64 x]) ∧ Below w.heap.size w w' := by
  have := topen_any k b w
  rwa [h1, h2, h3] at this

/-- What is known of the bytes of a signed head, laid anew. -/
theorem bytes_new (b : ByteArray) (w : World) (hb : b.size = 11) : ∃ cap W, (convert 9 25 (.string b)).run Try.prog w = .ok (.slice (some ⟨w.heap.size, 0, none⟩) 11 cap) W ∧ Below w.heap.size w W ∧ 11 ≤ cap ∧ w.heap.size < W.heap.size ∧ (∀ j, j < 11 → W.cell? ⟨w.heap.size, j, none⟩ = some (.int .u8 ((b.data.toList.getD j 0).toNat : Int))) ∧ (∀ j, j < 11 → W.frozen? ⟨w.heap.size, j, none⟩ = false) := by
  have h := Lib.run_convert_string_bytes (P := Try.prog) w 9 25 5 b Try.underlying9 Try.underlying25 Try.underlying5
  have hc := grownCap_ge w b.size 0 5
  have hsz := Lib.bytesWorld_size w 5 b
  have hcs : b.size ≤ (Lib.bytesCells w 5 b).size := by
    unfold Lib.bytesCells
    simp
  rw [hb] at h hc
  refine ⟨_, _, h, ⟨rfl, rfl, rfl, by omega, fun k hk => Lib.bytesWorld_at_old w _ b k hk⟩, by omega, by omega, fun j hj => Lib.bytesWorld_cell w _ b j (by omega), fun j hj => ?_⟩
  have hn := Lib.bytesWorld_at_new w 5 b
  simp [World.frozen?, hn]
  omega

set_option maxRecDepth 100000 in
set_option maxHeartbeats 1000000 in
theorem opened_walk (c0 c1 c2 c3 c4 : Int) (w : World) (h0 : Fits c0) (h1 : Fits c1) (h2 : Fits c2) (_h3 : Fits c3) (h4 : Fits c4) :
    Calls Try.prog 3 #[.int .i64 c0, .int .i64 c1, .int .i64 c2, .int .i64 c3, .int .i64 c4] w fun e w' => e = .returned (.bool true) ∧ Below w.heap.size w w' := by
  obtain ⟨x, hx, HX⟩ := pick_nat c0 1018 h0 (by omega) (by omega)
  obtain ⟨n1, hn1, HN1⟩ := pick_nat c1 1018 h1 (by omega) (by omega)
  obtain ⟨z, hz, HZ⟩ := pick_nat c2 41 h2 (by omega) (by omega)
  obtain ⟨n, hn, HN⟩ := pick_nat c4 88 h4 (by omega) (by omega)
  have HX : Hid _ := HX
  have HZ : Hid _ := HZ
  have HN1 : Hid _ := HN1
  have HN : Hid _ := HN
  have hcv1 := twoB_conv c3
  have HS1 : Hid _ := fun w => sum_two c3 w
  have hr1 := Pl.sumB_isSum (twoB c3)
  generalize Pl.sumB (twoB c3) = r at *
  generalize twoB c3 = t1 at *
  have HK : Hid (∀ w, Calls Try.prog 10 #[.int .i64 (1 + (x : Int))] w fun e w' => e = .returned (.tuple #[.int .i64 (Pl.powM 4 (1 + x) : Nat), .int .i64 0]) ∧ Below w.heap.size w w') := fun w => by
    have := key_to (1 + x) w (by omega) (by omega)
    rwa [show ((1 + x : Nat) : Int) = 1 + (x : Int) by omega] at this
  have HA : Hid (∀ w, Calls Try.prog 11 #[.int .i64 (1 + (x : Int)), .int .i64 (1 + (n1 : Int)), .agg #[.int .i64 z, .string r]] w fun e w' => e = .returned (.tuple #[.string (Pl.signT (1 + x) (1 + n1) z r), .int .i64 0]) ∧ Below w.heap.size w w') := fun w => by
    have := sign_to (1 + x) (1 + n1) z r w (by omega) (by omega) (by omega) (by omega) (by omega) hr1
    rwa [show ((1 + x : Nat) : Int) = 1 + (x : Int) by omega, show ((1 + n1 : Nat) : Int) = 1 + (n1 : Int) by omega] at this
  obtain ⟨a1, a2, a3, a4, a5, a6⟩ := sign_open (1 + x) (1 + n1) z r (by omega) (by omega) (by omega) (by omega) hr1
  obtain ⟨o1, o2, o3⟩ := sign_openE (1 + x) (1 + n1) z r (by omega) (by omega) (by omega) (by omega) hr1
  have hpk := Pl.powM_lt 4 (1 + x)
  generalize Pl.signT (1 + x) (1 + n1) z r = A at *
  generalize Pl.powM 4 (1 + x) = k at *
  have HO1 : Hid _ := fun w => open_to k A z r 0 w o2 o3 o1
  go_enter Try.func3, Try.ntmps3
  go_wp2_with fail
  refine (HX.out _).mono ?_
  rintro e w1 ⟨rfl, rfl⟩
  go_wp2_with fail
  refine (HS1.out _).mono ?_
  rintro e w2 ⟨rfl, k2⟩
  go_wp2_with fail
  refine (HZ.out _).mono ?_
  rintro e w3 ⟨rfl, rfl⟩
  go_wp2_with fail
  have hbx := Box.new w3 27 [.int .i64 z, .string r]
  have k3 := k2.alloc k2.size (.cells #[.int .i64 z, .string r] 27)
  generalize w3.alloc (.cells #[.int .i64 z, .string r] 27) = W3 at *
  refine (HK.out _).mono ?_
  rintro e w4 ⟨rfl, b4⟩
  have k4 := k3.trans (b4.mono k3.size)
  have hx4 := hbx.grow b4 hbx.lt
  clear b4 k3 hbx
  have hx4' := hx4.drew
  have q0 := hx4'.cell 0
  have q1 := hx4'.cell 1
  have hwr : IntKind.i64.wrap (1 + (n1 : Int)) = 1 + (n1 : Int) := by rw [IntKind.wrap_i64]; omega
  go_wp2_with fail
  go_region_held3 (fun w' => w'.cell? ⟨w3.heap.size, 0, none⟩ = some (.int .i64 z) ∧ w'.cell? ⟨w3.heap.size, 1, none⟩ = some (.string r)) (go_keep) (first
    | (go_at_call 8; refine (HN1.out _).mono ?_; rintro e w5 ⟨rfl, rfl⟩)
    | (go_at_call 11; refine (HA.out _).mono ?_; rintro e w6 ⟨rfl, b6⟩; obtain ⟨y0, y1, _⟩ := keep2 b6 hx4'.lt q0 q1))
  all_goals
    have k6 := k4.drew.trans (b6.mono k4.size)
    have hx6 := hx4'.grow b6 hx4'.lt
    clear b6 q0 q1 y0 y1 hx4 hx4' k4
    go_wp2_with fail
    refine (HO1.out _).mono ?_
    rintro e w7 ⟨rfl, b7⟩
    have k7 := k6.trans (b7.mono k6.size)
    have hx7 := hx6.grow b7 hx6.lt
    clear b7 hx6 k6
    have q0 := hx7.cell 0
    have q1 := hx7.cell 1
    have l7 := hx7.lt
    have hne7 : ¬ w3.heap.size = w7.heap.size := by omega
    go_wp2_with fail
    have hx8 := hx7.alloc (.cells #[.int .i64 z, .string r] 27)
    have k8 := k7.alloc k7.size (.cells #[.int .i64 z, .string r] 27)
    clear q0 q1 l7 hne7 hx7 k7
    generalize w7.alloc (.cells #[.int .i64 z, .string r] 27) = W8 at *
    refine (HN.out _).mono ?_
    rintro e w9 ⟨rfl, rfl⟩
    have k9s := k8.size
    have l9 := hx8.lt
    obtain ⟨cpb, Wb, hcb, bb, hcp, lb, hcell, hfro⟩ := bytes_new A w9 a6
    have kb := k8.trans (bb.mono k8.size)
    have hxb := hx8.grow bb hx8.lt
    obtain ⟨q, t, hqt, hq, ht⟩ : ∃ q t : Nat, n = 8 * q + t ∧ q < 11 ∧ t < 8 := ⟨n / 8, n % 8, by omega, by omega, by omega⟩
    have i1 : (n : Int).tdiv 8 = (q : Int) := by rw [Int.tdiv_eq_ediv_of_nonneg (by omega)]; omega
    have i2 : (n : Int) / 8 = (q : Int) := by omega
    have i3 : (n : Int).tmod 8 = (t : Int) := by rw [Int.tmod_eq_emod_of_nonneg (by omega)]; omega
    have i4 : (n : Int) % 8 = (t : Int) := by omega
    have i8 : n / 8 = q := by omega
    have i9 : n % 8 = t := by omega
    have HQT : Hid (n = 8 * q + t) := hqt
    clear hqt
    have i5 : (0 : Int) ≤ (q : Int) := by omega
    have i6 : (q : Int) < 11 := by omega
    have i7 : (0 : Int) ≤ (t : Int) := by omega
    have cq := hcell q hq
    have fq := hfro q hq
    have hby := (A.data.toList.getD q 0).toNat_lt
    have HCell : Hid _ := hcell
    clear hcell hfro bb hx8 k8
    generalize hX : (A.data.toList.getD q 0) = X at *
    go_wp2_with fail
    go_region
    all_goals
      have hval : Value.int .u8 (bits .xor .u8 (X.toNat : Int) (2 ^ t % 256)) = .int .u8 (((A.data.toList.getD q 0) ^^^ (1 <<< UInt8.ofNat t)).toNat : Int) := by rw [xor_bit X t ht, hX]
      have hcs := flip_cells A n q t w9.heap.size Wb a6 i8 i9 hq HCell.out _ hval
      have k10 : Below w1.heap.size w1 (Wb.setCell ⟨w9.heap.size, q, none⟩ (.int .u8 (bits .xor .u8 (X.toNat : Int) (2 ^ t % 256)))).drew := (kb.setCell (by have := k9s; simp; omega) _).drew
      have hx10 : Box (Wb.setCell ⟨w9.heap.size, q, none⟩ (.int .u8 (bits .xor .u8 (X.toNat : Int) (2 ^ t % 256)))).drew w3.heap.size 27 [.int .i64 z, .string r] := hxb.other (by omega) q _
      have hconv := run_convert_bytes_back (P := Try.prog) (Wb.setCell ⟨w9.heap.size, q, none⟩ (.int .u8 (bits .xor .u8 (X.toNat : Int) (2 ^ t % 256)))).drew 25 9 5 ⟨w9.heap.size, 0, none⟩ cpb (flipL A.data.toList n) Try.underlying25 Try.underlying5 Try.underlying9 (fun j hj => by rw [add_plain]; exact hcs j hj)
      rw [flipL_length, show A.data.toList.length = 11 by simpa using a6] at hconv
      change _ = Result.ok (Value.string (flipB A n)) _ at hconv
      clear hcs hval cq fq HCell kb hxb hcb
      generalize (Wb.setCell ⟨w9.heap.size, q, none⟩ (.int .u8 (bits .xor .u8 (X.toNat : Int) (2 ^ t % 256)))).drew = W10 at *
      have HM : Hid (∀ w, Calls Try.prog 12 #[.int .i64 ((k : Int) + 2039), .string A] w fun e w' => e = .returned (.tuple #[.agg #[.int .i64 0, .string ⟨#[]⟩], .int .i64 2]) ∧ Below w.heap.size w w') := fun w => open_to _ A 0 ⟨#[]⟩ 2 w (by unfold openSize; rw [key_more k A]; rfl) (by unfold openRoot; rw [key_more k A]; rfl) (key_more k A)
      have HF0 : Hid _ := fun w => topen_any k (flipB A n) w
      have h72 := (headB_parts a2).2.1
      have hfirst := flip_first (k : Int) A n a6 h72
      have hhead := flip_head A n a6
      rw [a4, a5] at hhead
      by_cases he : openE (k : Int) (flipB A n) = 0
      · have hn8 : 8 ≤ n := by
          apply Decidable.byContradiction
          intro hh
          exact hfirst (by omega) he
        have hos : openSize (k : Int) (flipB A n) = Pl.hSize (flipB A n) := if_pos he
        have hor : openRoot (k : Int) (flipB A n) = Pl.hRoot (flipB A n) := if_pos he
        have hh := hhead hn8 hn
        rw [← hos, ← hor] at hh
        rw [he] at HF0
        clear hhead hfirst hos hor he a1 a2 a3 a4 a5 o1 o2 o3 h72 HX HZ HN1 HN HS1 HK HA HO1
        generalize openSize (k : Int) (flipB A n) = sz at *
        generalize openRoot (k : Int) (flipB A n) = ro at *
        generalize flipB A n = F at *
        have HF : Hid _ := HF0.out
        clear HF0
        by_cases h56 : 56 ≤ n
        · obtain ⟨rfl, rfl⟩ := hh.2 h56
          clear hh
          have j1 : (8 : Int) ≤ (n : Int) := by omega
          have j2 : (56 : Int) ≤ (n : Int) := by omega
          clear i1 i2 i3 i4 i5 i6 i7 i8 i9 h56 hn8
          go_wp2_with fail
          refine (HF.out _).mono ?_
          rintro e w11 ⟨rfl, b11⟩
          have k11 := k10.trans (b11.mono k10.size)
          have hx11 := hx10.grow b11 hx10.lt
          clear b11 k10 hx10 hconv
          go_wp2_with fail
          have k12 := k11.alloc k11.size (.cells #[.int .i64 sz, .string ro] 27)
          have hx12 := hx11.alloc (.cells #[.int .i64 sz, .string ro] 27)
          have hy12 := Box.new w11 27 [.int .i64 sz, .string ro]
          clear k11 hx11
          generalize w11.alloc (.cells #[.int .i64 sz, .string ro] 27) = W12 at *
          refine (HM.out _).mono ?_
          rintro e w13 ⟨rfl, b13⟩
          have k13 := k12.trans (b13.mono k12.size)
          have hx13 := hx12.grow b13 hx12.lt
          have hy13 := hy12.grow b13 hy12.lt
          have s0 := hx13.cell 0
          have s1 := hx13.cell 1
          have y0 := hy13.cell 0
          have y1 := hy13.cell 1
          have lx := hx13.lt
          have ly := hy13.lt
          have hnx : ¬ w3.heap.size = w13.heap.size := by omega
          have hny : ¬ w11.heap.size = w13.heap.size := by omega
          clear b13 k12 hx12 hy12 hx13 hy13
          go_wp2_with fail
          all_goals
            go_ret
            exact ⟨rfl, k13.alloc k13.size _⟩
        · have hno : ¬ (sz = z ∧ ro = r) := fun hz' => h56 (hh.1 hz')
          have j1 : (8 : Int) ≤ (n : Int) := by omega
          have j3 : decide ((56 : Int) ≤ (n : Int)) = false := decide_eq_false (by omega)
          clear hh i1 i2 i3 i4 i5 i6 i7 i8 i9 h56 hn8
          by_cases hsz : sz = z
          · have hro : ¬ ro = r := fun hh => hno ⟨hsz, hh⟩
            have hrb := str_no hro
            subst hsz
            clear hno hro
            go_wp2_with fail
            refine (HF.out _).mono ?_
            rintro e w11 ⟨rfl, b11⟩
            have k11 := k10.trans (b11.mono k10.size)
            have hx11 := hx10.grow b11 hx10.lt
            clear b11 k10 hx10 hconv
            go_wp2_with fail
            have k12 := k11.alloc k11.size (.cells #[.int .i64 sz, .string ro] 27)
            have hx12 := hx11.alloc (.cells #[.int .i64 sz, .string ro] 27)
            have hy12 := Box.new w11 27 [.int .i64 sz, .string ro]
            clear k11 hx11
            generalize w11.alloc (.cells #[.int .i64 sz, .string ro] 27) = W12 at *
            refine (HM.out _).mono ?_
            rintro e w13 ⟨rfl, b13⟩
            have k13 := k12.trans (b13.mono k12.size)
            have hx13 := hx12.grow b13 hx12.lt
            have hy13 := hy12.grow b13 hy12.lt
            have s0 := hx13.cell 0
            have s1 := hx13.cell 1
            have y0 := hy13.cell 0
            have y1 := hy13.cell 1
            have lx := hx13.lt
            have ly := hy13.lt
            have hnx : ¬ w3.heap.size = w13.heap.size := by omega
            have hny : ¬ w11.heap.size = w13.heap.size := by omega
            clear b13 k12 hx12 hy12 hx13 hy13
            go_wp2_with fail
            all_goals
              go_ret
              exact ⟨rfl, k13.alloc k13.size _⟩
          · have hzb : ((sz : Int) == (z : Int)) = false := by rw [beq_eq_false_iff_ne]; omega
            clear hno hsz
            go_wp2_with fail
            refine (HF.out _).mono ?_
            rintro e w11 ⟨rfl, b11⟩
            have k11 := k10.trans (b11.mono k10.size)
            have hx11 := hx10.grow b11 hx10.lt
            clear b11 k10 hx10 hconv
            go_wp2_with fail
            have k12 := k11.alloc k11.size (.cells #[.int .i64 sz, .string ro] 27)
            have hx12 := hx11.alloc (.cells #[.int .i64 sz, .string ro] 27)
            have hy12 := Box.new w11 27 [.int .i64 sz, .string ro]
            clear k11 hx11
            generalize w11.alloc (.cells #[.int .i64 sz, .string ro] 27) = W12 at *
            refine (HM.out _).mono ?_
            rintro e w13 ⟨rfl, b13⟩
            have k13 := k12.trans (b13.mono k12.size)
            have hx13 := hx12.grow b13 hx12.lt
            have hy13 := hy12.grow b13 hy12.lt
            have s0 := hx13.cell 0
            have s1 := hx13.cell 1
            have y0 := hy13.cell 0
            have y1 := hy13.cell 1
            have lx := hx13.lt
            have ly := hy13.lt
            have hnx : ¬ w3.heap.size = w13.heap.size := by omega
            have hny : ¬ w11.heap.size = w13.heap.size := by omega
            clear b13 k12 hx12 hy12 hx13 hy13
            go_wp2_with fail
            all_goals
              go_ret
              exact ⟨rfl, k13.alloc k13.size _⟩
      · have heb : (openE (k : Int) (flipB A n) != 0) = true := by rw [bne_iff_ne]; exact he
        clear hhead hfirst he a1 a2 a3 a4 a5 o1 o2 o3 h72 HX HZ HN1 HN HS1 HK HA HO1
        generalize openSize (k : Int) (flipB A n) = sz at *
        generalize openRoot (k : Int) (flipB A n) = ro at *
        generalize openE (k : Int) (flipB A n) = e2 at *
        generalize flipB A n = F at *
        have HF : Hid _ := HF0.out
        clear HF0 i1 i2 i3 i4 i5 i6 i7 i8 i9
        go_wp2_with fail
        refine (HF.out _).mono ?_
        rintro e w11 ⟨rfl, b11⟩
        have k11 := k10.trans (b11.mono k10.size)
        have hx11 := hx10.grow b11 hx10.lt
        clear b11 k10 hx10 hconv
        go_wp2_with fail
        have k12 := k11.alloc k11.size (.cells #[.int .i64 sz, .string ro] 27)
        have hx12 := hx11.alloc (.cells #[.int .i64 sz, .string ro] 27)
        have hy12 := Box.new w11 27 [.int .i64 sz, .string ro]
        clear k11 hx11
        generalize w11.alloc (.cells #[.int .i64 sz, .string ro] 27) = W12 at *
        refine (HM.out _).mono ?_
        rintro e w13 ⟨rfl, b13⟩
        have k13 := k12.trans (b13.mono k12.size)
        have hx13 := hx12.grow b13 hx12.lt
        have hy13 := hy12.grow b13 hy12.lt
        have s0 := hx13.cell 0
        have s1 := hx13.cell 1
        have y0 := hy13.cell 0
        have y1 := hy13.cell 1
        have lx := hx13.lt
        have ly := hy13.lt
        have hnx : ¬ w3.heap.size = w13.heap.size := by omega
        have hny : ¬ w11.heap.size = w13.heap.size := by omega
        clear b13 k12 hx12 hy12 hx13 hy13
        go_wp2_with fail
        all_goals
          go_ret
          exact ⟨rfl, k13.alloc k13.size _⟩

end Go.Proofs.Ytkhnjipjbhcgdab
