/-
  THE WALK of treeheadref.Convicts.
-/
import Derived.Test.YtkhnjipjbhcgdaaREvid
namespace Go.Proofs.Ytkhnjipjbhcgdaa
open Go.RowKit

set_option maxRecDepth 100000 in
set_option maxHeartbeats 2000000 in
theorem rconv_short (key : Int) (v : ByteArray) (w : World) (h : Pl.keyB key = false ∨ ¬ v.size = 23 ∨ ¬ Pl.byt v 0 = 86) :
    Calls Try.prog 39 #[.int .i64 key, .string v] w fun e w' => e = .returned (.int .i64 (convE key v)) ∧ Below w.heap.size w w' := by
  have hik := fun w => riskey_any key w
  cases hk : Pl.keyB key with
  | false =>
    have HX : Hid (convE key v = 2) := by show _ = _; simp [convE, hk]
    rw [HX.out]
    rw [hk] at hik
    clear hk h
    go_enter Try.func39, Try.ntmps39
    go_wp2_with fail
    refine (hik _).mono ?_
    rintro e w1 ⟨rfl, rfl⟩
    go_wp2_with fail
    go_ret
    exact ⟨rfl, Below.refl _ _⟩
  | true =>
    rw [hk] at hik h
    by_cases h23 : v.size = 23
    · have h86 : ¬ Pl.byt v 0 = 86 := by rcases h with h | h | h <;> first | cases h | exact absurd h23 h | exact h
      have HX : Hid (convE key v = 3) := by show _ = _; simp [convE, hk, h86]
      rw [HX.out]
      have e0 := Pl.byt_eq v 0 (by omega)
      have b0 := Pl.byt_lt v 0
      have hd : ((v.size : Int) != 23) = false := by rw [h23]; rfl
      generalize Pl.byt v 0 = x0 at *
      have hd2 : ((x0 : Int) != 86) = true := by rw [bne_iff_ne]; omega
      clear h hk h86
      go_enter Try.func39, Try.ntmps39
      go_wp2_with fail
      refine (hik _).mono ?_
      rintro e w1 ⟨rfl, rfl⟩
      go_wp2_with fail
      go_ret
      exact ⟨rfl, Below.refl _ _⟩
    · have HX : Hid (convE key v = 3) := by show _ = _; simp [convE, hk, h23]
      rw [HX.out]
      have hd : ((v.size : Int) != 23) = true := by rw [bne_iff_ne]; omega
      clear h hk
      go_enter Try.func39, Try.ntmps39
      go_wp2_with fail
      refine (hik _).mono ?_
      rintro e w1 ⟨rfl, rfl⟩
      go_wp2_with fail
      go_ret
      exact ⟨rfl, Below.refl _ _⟩

set_option maxRecDepth 100000 in
set_option maxHeartbeats 4000000 in
theorem rconv_long (key : Nat) (v : ByteArray) (w : World) (hkn : key < 2039) (hk : Pl.keyB key = true) (h23 : v.size = 23) (h86 : Pl.byt v 0 = 86) :
    Calls Try.prog 39 #[.int .i64 key, .string v] w fun e w' => e = .returned (.int .i64 (convE key v)) ∧ Below w.heap.size w w' := by
  have hik := fun w => riskey_any key w
  rw [hk] at hik
  have e0 := Pl.byt_eq v 0 (by omega)
  rw [h86] at e0
  have hd : ((v.size : Int) != 23) = false := by rw [h23]; rfl
  have hsA := fun w => rsigned_any (v.extract 1 12) w
  have hsB := fun w => rsigned_any (v.extract 12 23) w
  have HE : Hid (convE key v = if Pl.headB (v.extract 1 12) = false then 3
    else if Pl.headB (v.extract 12 23) = false then 3
    else if ¬ Pl.hSize (v.extract 1 12) = Pl.hSize (v.extract 12 23) then 3
    else if Op.bytesLess (Pl.hRoot (v.extract 1 12)).toList (Pl.hRoot (v.extract 12 23)).toList = false then 3
    else if Pl.rightB key (v.extract 1 12) = false then 4
    else if Pl.rightB key (v.extract 12 23) = false then 4
    else 0) := by
    show _ = _
    unfold convE
    rw [if_neg (by rw [hk]; simp), if_neg (by simpa using h23), if_neg (by simpa using h86), Int.toNat_natCast]
  clear hk h86
  cases gA : Pl.headB (v.extract 1 12) with
  | false =>
    have HX : Hid (convE key v = 3) := by show _ = _; rw [HE.out, gA]; rfl
    rw [HX.out]
    rw [gA] at hsA
    clear HE gA
    go_enter Try.func39, Try.ntmps39
    go_wp2_with fail
    refine (hik _).mono ?_
    rintro e w1 ⟨rfl, rfl⟩
    go_wp2_with fail
    refine (hsA _).mono ?_
    rintro e w2 ⟨⟨sz, rt, c, s, rfl, hv1⟩, hb2⟩
    clear hv1
    go_wp2_with fail
    refine (hsB _).mono ?_
    rintro e w3 ⟨⟨sz', rt', c', s', rfl, hv2⟩, hb3⟩
    clear hv2
    obtain ⟨q0, q1, hz⟩ := box2 hb3
    have k3 : Below w1.heap.size w1 w3 := (hb2.alloc hb2.size _).trans (hb3.mono (by have := hb2.size; simp; omega))
    clear hb2 hb3
    go_wp2_with fail
    go_ret
    exact ⟨rfl, k3.alloc k3.size _⟩
  | true =>
    have hrA := fun w => rright_any key (v.extract 1 12) w hkn gA
    cases gB : Pl.headB (v.extract 12 23) with
    | false =>
      have HX : Hid (convE key v = 3) := by show _ = _; rw [HE.out, gA, gB]; rfl
      rw [HX.out]
      rw [gA] at hsA
      rw [gB] at hsB
      clear HE gA gB
      go_enter Try.func39, Try.ntmps39
      go_wp2_with fail
      refine (hik _).mono ?_
      rintro e w1 ⟨rfl, rfl⟩
      go_wp2_with fail
      refine (hsA _).mono ?_
      rintro e w2 ⟨⟨sz, rt, c, s, rfl, hv1⟩, hb2⟩
      clear hv1
      go_wp2_with fail
      refine (hsB _).mono ?_
      rintro e w3 ⟨⟨sz', rt', c', s', rfl, hv2⟩, hb3⟩
      clear hv2
      obtain ⟨q0, q1, hz⟩ := box2 hb3
      have k3 : Below w1.heap.size w1 w3 := (hb2.alloc hb2.size _).trans (hb3.mono (by have := hb2.size; simp; omega))
      clear hb2 hb3
      go_wp2_with fail
      go_ret
      exact ⟨rfl, k3.alloc k3.size _⟩
    | true =>
      have hrB := fun w => rright_any key (v.extract 12 23) w hkn gB
      rw [gA, gB] at HE
      rw [gA] at hsA
      rw [gB] at hsB
      clear gA gB
      generalize Pl.hSize (v.extract 1 12) = n1 at *
      generalize Pl.hSize (v.extract 12 23) = n2 at *
      generalize Pl.hRoot (v.extract 1 12) = r1 at *
      generalize Pl.hRoot (v.extract 12 23) = r2 at *
      by_cases hn : n1 = n2
      · subst hn
        have hd2 : ((n1 : Int) != (n1 : Int)) = false := by simp
        cases hl : Op.bytesLess r1.toList r2.toList with
        | false =>
          have HX : Hid (convE key v = 3) := by show _ = _; rw [HE.out]; simp [hl]
          rw [HX.out]
          clear HE
          go_enter Try.func39, Try.ntmps39
          go_wp2_with fail
          refine (hik _).mono ?_
          rintro e w1 ⟨rfl, rfl⟩
          go_wp2_with fail
          refine (hsA _).mono ?_
          rintro e w2 ⟨⟨sz, rt, c, s, rfl, hv1⟩, hb2⟩
          obtain ⟨rfl, rfl⟩ := hv1 (by trivial)
          clear hv1
          go_wp2_with fail
          refine (hsB _).mono ?_
          rintro e w3 ⟨⟨sz', rt', c', s', rfl, hv2⟩, hb3⟩
          obtain ⟨rfl, rfl⟩ := hv2 (by trivial)
          clear hv2
          obtain ⟨q0, q1, hz⟩ := box2 hb3
          have k3 : Below w1.heap.size w1 w3 := (hb2.alloc hb2.size _).trans (hb3.mono (by have := hb2.size; simp; omega))
          clear hb2 hb3
          go_wp2_with fail
          go_ret
          exact ⟨rfl, k3.alloc k3.size _⟩
        | true =>
          cases ga : Pl.rightB key (v.extract 1 12) with
          | false =>
            have HX : Hid (convE key v = 4) := by show _ = _; rw [HE.out]; simp [hl, ga]
            rw [HX.out]
            rw [ga] at hrA
            clear HE ga
            go_enter Try.func39, Try.ntmps39
            go_wp2_with fail
            refine (hik _).mono ?_
            rintro e w1 ⟨rfl, rfl⟩
            go_wp2_with fail
            refine (hsA _).mono ?_
            rintro e w2 ⟨⟨sz, rt, c, s, rfl, hv1⟩, hb2⟩
            obtain ⟨rfl, rfl⟩ := hv1 (by trivial)
            clear hv1
            go_wp2_with fail
            refine (hsB _).mono ?_
            rintro e w3 ⟨⟨sz', rt', c', s', rfl, hv2⟩, hb3⟩
            obtain ⟨rfl, rfl⟩ := hv2 (by trivial)
            clear hv2
            obtain ⟨q0, q1, hz⟩ := box2 hb3
            have k3 : Below w1.heap.size w1 w3 := (hb2.alloc hb2.size _).trans (hb3.mono (by have := hb2.size; simp; omega))
            clear hb2 hb3
            go_wp2_with fail
            refine (hrA _).mono ?_
            rintro e w4 ⟨rfl, hb4⟩
            have k4 : Below w1.heap.size w1 w4 := (k3.alloc k3.size _).trans (hb4.mono (by have := k3.size; simp; omega))
            clear hb4
            go_wp2_with fail
            refine (hrB _).mono ?_
            rintro e w5 ⟨rfl, hb5⟩
            have k5 : Below w1.heap.size w1 w5 := k4.trans (hb5.mono k4.size)
            clear hb5
            go_wp2_with fail
            go_ret
            exact ⟨rfl, k5⟩
          | true =>
            rw [ga] at hrA
            cases gb : Pl.rightB key (v.extract 12 23) with
            | false =>
              have HX : Hid (convE key v = 4) := by show _ = _; rw [HE.out]; simp [hl, gb]
              rw [HX.out]
              rw [gb] at hrB
              clear HE ga gb
              go_enter Try.func39, Try.ntmps39
              go_wp2_with fail
              refine (hik _).mono ?_
              rintro e w1 ⟨rfl, rfl⟩
              go_wp2_with fail
              refine (hsA _).mono ?_
              rintro e w2 ⟨⟨sz, rt, c, s, rfl, hv1⟩, hb2⟩
              obtain ⟨rfl, rfl⟩ := hv1 (by trivial)
              clear hv1
              go_wp2_with fail
              refine (hsB _).mono ?_
              rintro e w3 ⟨⟨sz', rt', c', s', rfl, hv2⟩, hb3⟩
              obtain ⟨rfl, rfl⟩ := hv2 (by trivial)
              clear hv2
              obtain ⟨q0, q1, hz⟩ := box2 hb3
              have k3 : Below w1.heap.size w1 w3 := (hb2.alloc hb2.size _).trans (hb3.mono (by have := hb2.size; simp; omega))
              clear hb2 hb3
              go_wp2_with fail
              refine (hrA _).mono ?_
              rintro e w4 ⟨rfl, hb4⟩
              have k4 : Below w1.heap.size w1 w4 := (k3.alloc k3.size _).trans (hb4.mono (by have := k3.size; simp; omega))
              clear hb4
              go_wp2_with fail
              refine (hrB _).mono ?_
              rintro e w5 ⟨rfl, hb5⟩
              have k5 : Below w1.heap.size w1 w5 := k4.trans (hb5.mono k4.size)
              clear hb5
              go_wp2_with fail
              go_ret
              exact ⟨rfl, k5⟩
            | true =>
              have HX : Hid (convE key v = 0) := by show _ = _; rw [HE.out]; simp [hl, ga, gb]
              rw [HX.out]
              rw [gb] at hrB
              clear HE ga gb
              go_enter Try.func39, Try.ntmps39
              go_wp2_with fail
              refine (hik _).mono ?_
              rintro e w1 ⟨rfl, rfl⟩
              go_wp2_with fail
              refine (hsA _).mono ?_
              rintro e w2 ⟨⟨sz, rt, c, s, rfl, hv1⟩, hb2⟩
              obtain ⟨rfl, rfl⟩ := hv1 (by trivial)
              clear hv1
              go_wp2_with fail
              refine (hsB _).mono ?_
              rintro e w3 ⟨⟨sz', rt', c', s', rfl, hv2⟩, hb3⟩
              obtain ⟨rfl, rfl⟩ := hv2 (by trivial)
              clear hv2
              obtain ⟨q0, q1, hz⟩ := box2 hb3
              have k3 : Below w1.heap.size w1 w3 := (hb2.alloc hb2.size _).trans (hb3.mono (by have := hb2.size; simp; omega))
              clear hb2 hb3
              go_wp2_with fail
              refine (hrA _).mono ?_
              rintro e w4 ⟨rfl, hb4⟩
              have k4 : Below w1.heap.size w1 w4 := (k3.alloc k3.size _).trans (hb4.mono (by have := k3.size; simp; omega))
              clear hb4
              go_wp2_with fail
              refine (hrB _).mono ?_
              rintro e w5 ⟨rfl, hb5⟩
              have k5 : Below w1.heap.size w1 w5 := k4.trans (hb5.mono k4.size)
              clear hb5
              go_wp2_with fail
              go_ret
              exact ⟨rfl, k5⟩
      · have HX : Hid (convE key v = 3) := by show _ = _; rw [HE.out]; simp [hn]
        have hd2 : ((n1 : Int) != (n2 : Int)) = true := by rw [bne_iff_ne]; omega
        rw [HX.out]
        clear HE hn
        go_enter Try.func39, Try.ntmps39
        go_wp2_with fail
        refine (hik _).mono ?_
        rintro e w1 ⟨rfl, rfl⟩
        go_wp2_with fail
        refine (hsA _).mono ?_
        rintro e w2 ⟨⟨sz, rt, c, s, rfl, hv1⟩, hb2⟩
        obtain ⟨rfl, rfl⟩ := hv1 (by trivial)
        clear hv1
        go_wp2_with fail
        refine (hsB _).mono ?_
        rintro e w3 ⟨⟨sz', rt', c', s', rfl, hv2⟩, hb3⟩
        obtain ⟨rfl, rfl⟩ := hv2 (by trivial)
        clear hv2
        obtain ⟨q0, q1, hz⟩ := box2 hb3
        have k3 : Below w1.heap.size w1 w3 := (hb2.alloc hb2.size _).trans (hb3.mono (by have := hb2.size; simp; omega))
        clear hb2 hb3
        go_wp2_with fail
        go_ret
        exact ⟨rfl, k3.alloc k3.size _⟩

theorem rconv_any (key : Int) (v : ByteArray) (w : World) :
    Calls Try.prog 39 #[.int .i64 key, .string v] w fun e w' => e = .returned (.int .i64 (convE key v)) ∧ Below w.heap.size w w' := by
  cases hk : Pl.keyB key with
  | false => exact rconv_short key v w (Or.inl hk)
  | true =>
    by_cases h23 : v.size = 23
    · by_cases h86 : Pl.byt v 0 = 86
      · obtain ⟨x, _, _, rfl⟩ := Pl.keyB_yes hk
        exact rconv_long _ v w (Pl.powM_lt 4 x) hk h23 h86
      · exact rconv_short key v w (Or.inr (Or.inr h86))
    · exact rconv_short key v w (Or.inr (Or.inl h23))

end Go.Proofs.Ytkhnjipjbhcgdaa
