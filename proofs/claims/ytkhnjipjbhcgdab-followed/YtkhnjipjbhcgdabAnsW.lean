import Derived.Test.YtkhnjipjbhcgdabTOpen
import Derived.Test.YtkhnjipjbhcgdabAns
import Derived.Test.YtkhnjipjbhcgdabAns2
/-
  THE WALKS of treehead.Sign, treehead.Open.
-/
namespace Go.Proofs.Ytkhnjipjbhcgdab
open Go.RowKit Hp

theorem and_false_of {p q : Prop} [Decidable p] [Decidable q] (h : ¬ (p ∧ q)) : (decide p && decide q) = false := by
  cases hb : (decide p && decide q) with
  | false => rfl
  | true =>
    rw [Bool.and_eq_true, decide_eq_true_iff, decide_eq_true_iff] at hb
    exact absurd hb h

set_option maxRecDepth 100000 in
set_option maxHeartbeats 4000000 in
theorem tsign_any (secret nonce size : Int) (root : ByteArray) (w : World) (hrs : root.size ≤ maxLen) :
    Calls Try.prog 11 #[.int .i64 secret, .int .i64 nonce, .agg #[.int .i64 size, .string root]] w fun e w' => e = .returned (.tuple #[.string (signS secret nonce size root), .int .i64 (signE secret nonce size root)]) ∧ Below w.heap.size w w' := by
  have HS1 : Hid (∀ w, Calls Try.prog 29 #[.int .i64 secret] w fun e w' => e = .returned (.bool (decide (1 ≤ secret) && decide (secret ≤ 1018))) ∧ w' = w) := fun w => tissecret_any secret w
  have HS2 : Hid (∀ w, Calls Try.prog 29 #[.int .i64 nonce] w fun e w' => e = .returned (.bool (decide (1 ≤ nonce) && decide (nonce ≤ 1018))) ∧ w' = w) := fun w => tissecret_any nonce w
  have HM : Hid _ := fun w => tmayhead_any size root w hrs
  have hB0 : Below w.heap.size w (w.alloc (.cells #[.int .i64 size, .string root] 27)) := (Below.refl _ _).alloc (Nat.le_refl _) _
  have hx0 := Box.new w 27 [.int .i64 size, .string root]
  have HF : Hid (Pl.signB secret nonce size root = false → signS secret nonce size root = ⟨#[]⟩ ∧ signE secret nonce size root = 1) := fun hf => by
    unfold signS signE
    rw [hf]
    exact ⟨rfl, rfl⟩
  by_cases h1 : 1 ≤ secret ∧ secret ≤ 1018
  · rw [decide_eq_true h1.1, decide_eq_true h1.2] at HS1
    by_cases h2 : 1 ≤ nonce ∧ nonce ≤ 1018
    · rw [decide_eq_true h2.1, decide_eq_true h2.2] at HS2
      cases hm : (decide (0 ≤ size) && decide (size ≤ 40) && Pl.isSumB root) with
      | false =>
        rw [hm] at HM
        have HR : Hid _ := HF.out (by
          unfold Pl.signB
          rw [Bool.and_assoc (_ && _ && _ && _ && _), Bool.and_assoc (_ && _ && _ && _), ← Bool.and_assoc (decide (0 ≤ size)), hm, Bool.and_false])
        clear HF hm
        go_enter Try.func11, Try.ntmps11
        go_wp2_with fail
        refine (HS1.out _).mono ?_
        rintro e w1 ⟨rfl, rfl⟩
        go_wp2_with fail
        refine (HS2.out _).mono ?_
        rintro e w1 ⟨rfl, rfl⟩
        go_wp2_with fail
        refine (HM.out _).mono ?_
        rintro e w2 ⟨rfl, hb2⟩
        go_wp2_with fail
        rw [HR.out.1, HR.out.2]
        go_ret2
        exact ⟨rfl, hB0.trans (hb2.mono (by simp))⟩
      | true =>
        rw [hm] at HM
        simp only [Bool.and_eq_true, decide_eq_true_iff] at hm
        obtain ⟨x, rfl⟩ : ∃ x : Nat, secret = (x : Int) := ⟨secret.toNat, by omega⟩
        obtain ⟨y, rfl⟩ : ∃ y : Nat, nonce = (y : Int) := ⟨nonce.toNat, by omega⟩
        obtain ⟨z, rfl⟩ : ∃ z : Nat, size = (z : Int) := ⟨size.toNat, by omega⟩
        have hz := isSumB_size hm.2
        have HG : Hid _ := fun w => tsignin_any x y z root w (by omega) (by omega) (by omega) hm.2
        have hc := Pl.said_lt (Pl.powM 4 x) (Pl.powM 4 y) z root
        have hd := Pl.less_lt x y (Pl.said (Pl.powM 4 x) (Pl.powM 4 y) z root) (by omega)
        have HX : Hid _ := fun w => ttext_any z (Pl.said (Pl.powM 4 x) (Pl.powM 4 y) z root) (Pl.less x y (Pl.said (Pl.powM 4 x) (Pl.powM 4 y) z root)) root w (by omega) (by omega) (by omega) hz
        have HR : Hid (signS (x : Int) (y : Int) (z : Int) root = Pl.headText z root (Pl.said (Pl.powM 4 x) (Pl.powM 4 y) z root) (Pl.less x y (Pl.said (Pl.powM 4 x) (Pl.powM 4 y) z root)) ∧ signE (x : Int) (y : Int) (z : Int) root = 0) := by
          have ht : Pl.signB (x : Int) (y : Int) (z : Int) root = true := by
            unfold Pl.signB
            simp only [Bool.and_eq_true, decide_eq_true_iff]
            exact ⟨⟨⟨⟨⟨h1, h2.1⟩, h2.2⟩, hm.1.1⟩, hm.1.2⟩, hm.2⟩
          show _ ∧ _
          unfold signS signE
          rw [ht, if_pos rfl, if_pos rfl, Int.toNat_natCast, Int.toNat_natCast, Int.toNat_natCast]
          exact ⟨rfl, rfl⟩
        clear HF
        generalize Pl.less x y (Pl.said (Pl.powM 4 x) (Pl.powM 4 y) z root) = d at *
        generalize Pl.said (Pl.powM 4 x) (Pl.powM 4 y) z root = c at *
        go_enter Try.func11, Try.ntmps11
        go_wp2_with fail
        refine (HS1.out _).mono ?_
        rintro e w1 ⟨rfl, rfl⟩
        go_wp2_with fail
        refine (HS2.out _).mono ?_
        rintro e w1 ⟨rfl, rfl⟩
        go_wp2_with fail
        refine (HM.out _).mono ?_
        rintro e w2 ⟨rfl, hb2⟩
        have hx2 := hx0.grow hb2 (by simp)
        have k2 : Below w.heap.size w w2 := hB0.trans (hb2.mono (by simp))
        have c0 := hx2.cell 0
        have c1 := hx2.cell 1
        have hl2 := hx2.lt
        clear hb2
        go_wp2_with fail
        refine (HG.out _).mono ?_
        rintro e w3 ⟨rfl, hb3⟩
        go_wp2_with fail
        refine (HX.out _).mono ?_
        rintro e w4 ⟨rfl, hb4⟩
        go_wp2_with fail
        rw [HR.out.1, HR.out.2]
        go_ret2
        have k3 := k2.trans (hb3.mono (by omega))
        exact ⟨rfl, k3.trans (hb4.mono (by have := k3.size; omega))⟩
    · rw [and_false_of h2] at HS2
      have HR : Hid _ := HF.out (by
        unfold Pl.signB
        rw [Bool.and_assoc (decide (1 ≤ secret) && decide (secret ≤ 1018)), and_false_of h2, Bool.and_false, Bool.false_and, Bool.false_and, Bool.false_and])
      clear HF
      go_enter Try.func11, Try.ntmps11
      go_wp2_with fail
      refine (HS1.out _).mono ?_
      rintro e w1 ⟨rfl, rfl⟩
      go_wp2_with fail
      refine (HS2.out _).mono ?_
      rintro e w1 ⟨rfl, rfl⟩
      go_wp2_with fail
      rw [HR.out.1, HR.out.2]
      go_ret2
      exact ⟨rfl, hB0⟩
  · rw [and_false_of h1] at HS1
    have HR : Hid _ := HF.out (by
      unfold Pl.signB
      rw [and_false_of h1, Bool.false_and, Bool.false_and, Bool.false_and, Bool.false_and, Bool.false_and])
    clear HF
    go_enter Try.func11, Try.ntmps11
    go_wp2_with fail
    refine (HS1.out _).mono ?_
    rintro e w1 ⟨rfl, rfl⟩
    go_wp2_with fail
    rw [HR.out.1, HR.out.2]
    go_ret2
    exact ⟨rfl, hB0⟩

theorem openV_form (key : Int) (b : ByteArray) : ∃ c s : Nat, openV key b = .agg #[.int .i64 (openSize key b : Nat), .string (openRoot key b), .int .i64 c, .int .i64 s] := by
  unfold openV openSize openRoot
  by_cases h : openE key b = 0
  · rw [if_pos h, if_pos h, if_pos h]
    have hh : Pl.headB b = true := by
      cases hb : Pl.headB b with
      | true => rfl
      | false =>
        unfold openE at h
        rw [hb] at h
        cases hk : Pl.keyB key <;> rw [hk] at h <;> cases h
    exact ⟨_, _, readV_yes hh⟩
  · rw [if_neg h, if_neg h, if_neg h]
    exact ⟨0, 0, rfl⟩

set_option maxRecDepth 100000 in
set_option maxHeartbeats 4000000 in
theorem topen_any (key : Int) (b : ByteArray) (w : World) :
    Calls Try.prog 12 #[.int .i64 key, .string b] w fun e w' => e = .returned (.tuple #[.agg #[.int .i64 (openSize key b : Nat), .string (openRoot key b)], .int .i64 (openE key b)]) ∧ Below w.heap.size w w' := by
  have HO : Hid _ := fun w => topenin_any key b w
  obtain ⟨c, s, hv⟩ := openV_form key b
  rw [hv] at HO
  clear hv
  have hB0 : Below w.heap.size w (w.alloc (.cells #[.int .i64 0, .string ⟨#[]⟩] 27)) := (Below.refl _ _).alloc (Nat.le_refl _) _
  have hx0 := Box.new w 27 [.int .i64 0, .string ⟨#[]⟩]
  generalize openSize key b = n at *
  generalize openRoot key b = r at *
  generalize openE key b = x at *
  go_enter Try.func12, Try.ntmps12
  go_wp2_with fail
  refine (HO.out _).mono ?_
  rintro e w2 ⟨rfl, hb2⟩
  have hx2 := hx0.grow hb2 (by simp)
  have k2 : Below w.heap.size w w2 := hB0.trans (hb2.mono (by simp))
  have c0 := hx2.cell 0
  have c1 := hx2.cell 1
  have f0 := hx2.frozen 0
  have f1 := hx2.frozen 1
  have hl2 := hx2.lt
  have hne : ¬ w.heap.size = w2.heap.size := by omega
  clear hb2 hx0 hB0 hx2
  go_wp2_with fail
  refine bodyPost_ret (v := .tuple #[.agg #[.int .i64 n, .string r], .int .i64 x]) (by simp [results, Try.results12, go_sem, c0, c1, hl2]) rfl ⟨rfl, ?_⟩
  exact ((k2.setCell (Nat.le_refl _) _).setCell (Nat.le_refl _) _).alloc (by simp; omega) _

end Go.Proofs.Ytkhnjipjbhcgdab

/-
  WHAT A WATCHER IS TO ANSWER (no function of any translation is named).
-/
namespace Go.Proofs.Ytkhnjipjbhcgdab

/-- What Holds is to answer. -/
def holdsP (size : Nat) (root : ByteArray) (seen closed : Bool) (n i : Int) (leaf : ByteArray) (path : List ByteArray) : Int :=
  if closed = true then 10 else if seen = false then 7 else if ¬ n = size then 9 else inclA root n i leaf path
/-- Does a head that was opened go on from what was seen? -/
def goesB (size : Nat) (root : ByteArray) (seen : Bool) (fs : Nat) (fr : ByteArray) (path : List ByteArray) : Bool :=
  if seen = false ∨ size = 0 then decide (path.length = 0) else decide (extA size root fs fr path = 0)
/-- What Update is to answer. -/
def updP (key : Int) (size : Nat) (root : ByteArray) (seen closed : Bool) (b : ByteArray) (path : List ByteArray) : Int :=
  if closed = true then 10 else if ¬ openE key b = 0 then openE key b else if seen = true ∧ openSize key b < size then 5
  else if goesB size root seen (openSize key b) (openRoot key b) path = true then 0 else 6
end Go.Proofs.Ytkhnjipjbhcgdab
