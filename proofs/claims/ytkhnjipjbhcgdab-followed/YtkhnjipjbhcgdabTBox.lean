import Derived.Test.YtkhnjipjbhcgdabTSaid
/-
  BOXES of the call's own: two cells (a head), four cells (a signed head).
-/
namespace Go.Proofs.Ytkhnjipjbhcgdab
open Go.RowKit Hp

/-- Block B holds just these cells, and none is frozen. -/
def Box (w : World) (B : Nat) (t : TypeId) (l : List Value) : Prop := w.heap[B]? = some (.cells l.toArray t (0, 0))
theorem Box.lt {w : World} {B : Nat} {t : TypeId} {l : List Value} (h : Box w B t l) : B < w.heap.size := (Array.getElem?_eq_some_iff.1 h).1
theorem Box.cell {w : World} {B : Nat} {t : TypeId} {l : List Value} (h : Box w B t l) (k : Nat) : w.cell? ⟨B, k, none⟩ = l[k]? := by
  unfold Box at h
  simp [World.cell?, h]
theorem Box.frozen {w : World} {B : Nat} {t : TypeId} {l : List Value} (h : Box w B t l) (k : Nat) : w.frozen? ⟨B, k, none⟩ = false := by
  unfold Box at h
  simp [World.frozen?, h]
theorem Box.grow {w w' : World} {B n : Nat} {t : TypeId} {l : List Value} (h : Box w B t l) (hb : Below n w w') (hB : B < n) : Box w' B t l := by
  unfold Box
  rw [hb.block B hB]
  exact h
theorem Box.alloc {w : World} {B : Nat} {t : TypeId} {l : List Value} (h : Box w B t l) (o : Obj) : Box (w.alloc o) B t l :=
  h.grow ((Below.refl _ _).alloc (Nat.le_refl _) _) h.lt
theorem Box.drew {w : World} {B : Nat} {t : TypeId} {l : List Value} (h : Box w B t l) : Box w.drew B t l := h
theorem Box.new (w : World) (t : TypeId) (l : List Value) : Box (w.alloc (.cells l.toArray t)) w.heap.size t l := Array.getElem?_push_size ..
theorem Box.set {w : World} {B : Nat} {t : TypeId} {l : List Value} (h : Box w B t l) (k : Nat) (v : Value) : Box (w.setCell ⟨B, k, none⟩ v) B t (l.set k v) := by
  have hlt := h.lt
  have hv : w.heap[B] = .cells l.toArray t (0, 0) := (Array.getElem?_eq_some_iff.1 h).2
  unfold Box World.setCell
  rw [Array.getElem?_eq_getElem (by simpa using hlt), Array.getElem_modify]
  simp [hv]
theorem Box.other {w : World} {B B' : Nat} {t : TypeId} {l : List Value} (h : Box w B t l) (hne : B ≠ B') (k : Nat) (v : Value) : Box (w.setCell ⟨B', k, none⟩ v) B t l := by
  unfold Box
  rw [Below.heap_setCell _ _ _ _ hne]
  exact h
/-- Of what lay there block R alone has turned. -/
structure But (R : Nat) (w w' : World) : Prop where
  os : w'.os = w.os
  tape : w'.tape = w.tape
  output : w'.output = w.output
  size : w.heap.size ≤ w'.heap.size
  block : ∀ k, k < w.heap.size → k ≠ R → w'.heap[k]? = w.heap[k]?
theorem But.refl (R : Nat) (w : World) : But R w w := ⟨rfl, rfl, rfl, Nat.le_refl _, fun _ _ _ => rfl⟩
theorem But.of {R : Nat} {w w' : World} (h : Below w.heap.size w w') : But R w w' := ⟨h.os, h.tape, h.output, h.size, fun k hk _ => h.block k hk⟩
theorem But.trans {R : Nat} {a b c : World} (h1 : But R a b) (h2 : But R b c) : But R a c :=
  ⟨h2.os.trans h1.os, h2.tape.trans h1.tape, h2.output.trans h1.output, Nat.le_trans h1.size h2.size, fun k hk hR => (h2.block k (Nat.lt_of_lt_of_le hk h1.size) hR).trans (h1.block k hk hR)⟩
theorem But.drew {R : Nat} {a w : World} (h : But R a w) : But R a w.drew := h.trans (But.of ((Below.refl _ _).drew))
theorem But.setCell {R o : Nat} {a w : World} (h : But R a w) (u : Value) : But R a (w.setCell ⟨R, o, none⟩ u) :=
  ⟨h.os, h.tape, h.output, by simpa using h.size, fun k hk hR => by rw [Below.heap_setCell _ _ _ _ hR]; exact h.block k hk hR⟩
theorem But.below {R B : Nat} {a w : World} (h : But R a w) (hR : B ≤ R) (hB : B ≤ a.heap.size) : Below B a w :=
  ⟨h.os, h.tape, h.output, h.size, fun k hk => h.block k (by omega) (by omega)⟩
theorem Box.but {R B : Nat} {w w' : World} {t : TypeId} {l : List Value} (h : Box w B t l) (hb : But R w w') (hne : B ≠ R) : Box w' B t l := by
  unfold Box
  rw [hb.block B h.lt hne]
  exact h
theorem Row.but {R : Nat} {w w' : World} {p : Option Addr} {ss : List ByteArray} (hr : Row w p ss) (h : But R w w') (hB : ∀ b o, ss ≠ [] → p = some ⟨b, o, none⟩ → b ≠ R) : Row w' p ss := by
  refine ⟨hr.len, hr.size, ?_⟩
  rcases hr.cell with h0 | ⟨b, o, rfl, hb, hc⟩
  · exact Or.inl h0
  · exact Or.inr ⟨b, o, rfl, Nat.lt_of_lt_of_le hb h.size, fun i hi => by rw [World.cell?_of_block (w := w) (h.block b hb (hB b o (fun h0 => by simp [h0] at hi) rfl))]; exact hc i hi⟩

theorem tmod_fix (x : Int) : (if x.tmod 1019 < 0 then x.tmod 1019 + 1019 else x.tmod 1019) = x % 1019 := by
  have h : x.tmod 1019 = x % 1019 - ((if 0 ≤ x ∨ (1019 : Int) ∣ x then 0 else (1019 : Int).natAbs : Nat) : Int) := Int.tmod_eq_emod
  have hd : (1019 : Int).natAbs = 1019 := rfl
  by_cases hx : 0 ≤ x ∨ (1019 : Int) ∣ x
  · rw [if_pos hx] at h
    rw [h]
    split <;> omega
  · rw [if_neg hx, hd] at h
    have hx2 : ¬ (1019 : Int) ∣ x := fun hh => hx (Or.inr hh)
    rw [h]
    split <;> omega
theorem tmod_lt (x : Int) : -1019 < x.tmod 1019 ∧ x.tmod 1019 < 1019 := by
  have h := tmod_fix x
  have h2 : x.tmod 1019 = x % 1019 - ((if 0 ≤ x ∨ (1019 : Int) ∣ x then 0 else (1019 : Int).natAbs : Nat) : Int) := Int.tmod_eq_emod
  have hd : (1019 : Int).natAbs = 1019 := rfl
  rw [hd] at h2
  split at h <;> split at h2 <;> omega

set_option maxRecDepth 100000 in
set_option maxHeartbeats 4000000 in
theorem tsignin_any (secret nonce size : Nat) (root : ByteArray) (w : World) (h2 : secret ≤ 1018) (h4 : nonce ≤ 1018) (h6 : size ≤ 40) (h7 : Pl.isSumB root = true) :
    Calls Try.prog 32 #[.int .i64 secret, .int .i64 nonce, .agg #[.int .i64 size, .string root]] w fun e w' => e = .returned (.agg #[.int .i64 size, .string root, .int .i64 (Pl.said (Pl.powM 4 secret) (Pl.powM 4 nonce) size root : Nat), .int .i64 (Pl.less secret nonce (Pl.said (Pl.powM 4 secret) (Pl.powM 4 nonce) size root) : Nat)]) ∧ Below w.heap.size w w' := by
  have hz := isSumB_size h7
  have HP1 : Hid (∀ w, Calls Try.prog 30 #[.int .i64 secret] w fun e w' => e = .returned (.int .i64 (Pl.powM 4 secret : Nat)) ∧ w' = w) := fun w => tkeyof_any secret w (by omega)
  have HP2 : Hid (∀ w, Calls Try.prog 53 #[.int .i64 4, .int .i64 nonce] w fun e w' => e = .returned (.int .i64 (Pl.powM 4 nonce : Nat)) ∧ w' = w) := fun w => tpower_any 4 nonce w (by omega) (by omega)
  have p1 := Pl.powM_lt 4 secret
  have p2 := Pl.powM_lt 4 nonce
  have HS : Hid (∀ w, Calls Try.prog 54 #[.int .i64 (Pl.powM 4 nonce : Nat), .int .i64 (Pl.powM 4 secret : Nat), .agg #[.int .i64 size, .string root]] w fun e w' => e = .returned (.int .i64 (Pl.said (Pl.powM 4 secret) (Pl.powM 4 nonce) size root : Nat)) ∧ Below w.heap.size w w') := fun w => tsaid_any _ _ size root w (by omega) (by omega) (by omega) hz
  have hc := Pl.said_lt (Pl.powM 4 secret) (Pl.powM 4 nonce) size root
  generalize Pl.said (Pl.powM 4 secret) (Pl.powM 4 nonce) size root = c at *
  have HL : Hid ((Pl.less secret nonce c : Int) = ((nonce : Int) - (secret : Int) * (c : Int)) % 1019) := Pl.less_int secret nonce (by omega) (by omega) c
  have HF : Hid _ := tmod_fix ((nonce : Int) - (secret : Int) * (c : Int))
  have hm : 0 ≤ (secret : Int) * (c : Int) ∧ (secret : Int) * (c : Int) ≤ 1036324 := by
    have h3 : ((secret * c : Nat) : Int) ≤ 1036324 := by
      have := Nat.mul_le_mul h2 (show c ≤ 1018 by omega)
      omega
    rw [Int.natCast_mul] at h3
    exact ⟨Int.mul_nonneg (by omega) (by omega), h3⟩
  have hW1 : Below w.heap.size w ((w.alloc (.cells #[.int .i64 size, .string root] 27)).alloc (.cells #[.int .i64 0, .string ⟨#[]⟩, .int .i64 0, .int .i64 0] 65)).drew := (((Below.refl _ _).alloc (Nat.le_refl _) _).alloc (by simp) _).drew
  have hA : Box ((w.alloc (.cells #[.int .i64 size, .string root] 27)).alloc (.cells #[.int .i64 0, .string ⟨#[]⟩, .int .i64 0, .int .i64 0] 65)).drew w.heap.size 27 [.int .i64 size, .string root] := (Box.new w 27 [.int .i64 size, .string root]).alloc _
  have hB : Box ((w.alloc (.cells #[.int .i64 size, .string root] 27)).alloc (.cells #[.int .i64 0, .string ⟨#[]⟩, .int .i64 0, .int .i64 0] 65)).drew (w.heap.size + 1) 65 [.int .i64 0, .string ⟨#[]⟩, .int .i64 0, .int .i64 0] := by
    have := Box.new (w.alloc (.cells #[.int .i64 size, .string root] 27)) 65 [.int .i64 0, .string ⟨#[]⟩, .int .i64 0, .int .i64 0]
    rw [show (w.alloc (.cells #[.int .i64 size, .string root] 27)).heap.size = w.heap.size + 1 by simp] at this
    exact this
  have q00 := hA.cell 0
  have q01 := hA.cell 1
  go_enter Try.func32, Try.ntmps32
  go_wp2_with fail
  go_region_held3 (fun w' => w'.cell? ⟨w.heap.size, 0, none⟩ = some (.int .i64 size) ∧ w'.cell? ⟨w.heap.size, 1, none⟩ = some (.string root)) (go_keep) (first
    | (go_at_call 30; refine (HP1.out _).mono ?_; rintro e w2 ⟨rfl, rfl⟩)
    | (go_at_call 53; refine (HP2.out _).mono ?_; rintro e w2 ⟨rfl, rfl⟩)
    | (go_at_call 54; refine (HS.out _).mono ?_; rintro e w3 ⟨rfl, hb3⟩; obtain ⟨q30, q31, hz3⟩ := keep2 hb3 hA.lt q00 q01))
  all_goals
    have k3 : Below w.heap.size w w3 := hW1.trans (hb3.mono (by simp; omega))
    have hB3 := hB.grow hb3 hB.lt
    have c0 := hB3.cell 0
    have c1 := hB3.cell 1
    have c2 := hB3.cell 2
    have c3 := hB3.cell 3
    have f0 := hB3.frozen 0
    have f1 := hB3.frozen 1
    have f2 := hB3.frozen 2
    have f3 := hB3.frozen 3
    clear hb3 q00 q01 hA hB hW1 HP1 HP2 HS hB3
    have ht := tmod_lt ((nonce : Int) - (secret : Int) * (c : Int))
    have hd := HF.out
    rw [← HL.out] at hd
    clear HF HL
    by_cases hneg : ((nonce : Int) - (secret : Int) * (c : Int)).tmod 1019 < 0
    · rw [if_pos hneg] at hd
      have HD : Hid _ := hd
      clear hd
      go_wp2_with fail
      rw [← HD.out]
      refine bodyPost_ret (v := .agg #[.int .i64 size, .string root, .int .i64 c, .int .i64 (((nonce : Int) - (secret : Int) * (c : Int)).tmod 1019 + 1019)]) (by simp [results, Try.results32, go_sem, c0, c1, c2, c3]) rfl ⟨rfl, ?_⟩
      exact (((k3.setCell (by simp) _).setCell (by simp) _).setCell (by simp) _).setCell (by simp) _
    · rw [if_neg hneg] at hd
      have HD : Hid _ := hd
      clear hd
      go_wp2_with fail
      rw [← HD.out]
      refine bodyPost_ret (v := .agg #[.int .i64 size, .string root, .int .i64 c, .int .i64 (((nonce : Int) - (secret : Int) * (c : Int)).tmod 1019)]) (by simp [results, Try.results32, go_sem, c0, c1, c2, c3]) rfl ⟨rfl, ?_⟩
      exact (((k3.setCell (by simp) _).setCell (by simp) _).setCell (by simp) _).setCell (by simp) _
end Go.Proofs.Ytkhnjipjbhcgdab
