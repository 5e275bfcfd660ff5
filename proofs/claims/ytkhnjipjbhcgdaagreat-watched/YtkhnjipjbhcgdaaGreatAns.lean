import Derived.Test.YtkhnjipjbhcgdaaGreatTBox
import Derived.Deep.DeepCutAuto
import Derived.Test.YtkhnjipjbhcgdaaGreatPlainS
import Derived.WalkKit
/-
  THE WALKS of seals.Read, (Signed).Right, treehead.open.
-/
namespace Go.Proofs.YtkhnjipjbhcgdaaGreat
open Go.RowKit Hp

/-- What is read: a signed head, or nothing. -/
def readV (b : ByteArray) : Value := if Pl.headB b = true then .agg #[.int .i64 (Pl.hSize b : Nat), .string (Pl.hRoot b), .int .i64 (Pl.hC b : Nat), .int .i64 (Pl.hS b : Nat)] else .agg #[.int .i64 0, .string ⟨#[]⟩, .int .i64 0, .int .i64 0]

theorem byt_extract (b : ByteArray) (i j k : Nat) (h : i + k < j) : Pl.byt (b.extract i j) k = Pl.byt b (i + k) := by
  unfold Pl.byt
  rw [Lib.extract_data, List.getD_eq_getElem?_getD, List.getD_eq_getElem?_getD, List.getElem?_take, if_pos (by omega), List.getElem?_drop]

theorem below_box (w : World) : Below w.heap.size w (w.alloc (.cells #[.int .i64 0, .string ⟨#[]⟩, .int .i64 0, .int .i64 0] 91)) := (Below.refl _ _).alloc (Nat.le_refl _) _

set_option maxRecDepth 100000 in
set_option maxHeartbeats 4000000 in
theorem tread_no (b : ByteArray) (w : World) (h : ¬ b.size = 11 ∨ ¬ Pl.byt b 0 = 72) :
    Calls Tryz.prog 74 #[.string b] w fun e w' => e = .returned (.tuple #[.agg #[.int .i64 0, .string ⟨#[]⟩, .int .i64 0, .int .i64 0], .bool false]) ∧ Below w.heap.size w w' := by
  have hB0 := below_box w
  by_cases h11 : b.size = 11
  · have h0 : ¬ Pl.byt b 0 = 72 := by rcases h with h | h; exact absurd h11 h; exact h
    have hne : ((b.size : Int) != 11) = false := by rw [h11]; rfl
    have HP : Hid (∀ w, Calls Tryz.prog 84 #[.string b, .string ⟨#[72]⟩] w fun e w' => e = .returned (.bool false) ∧ w' = w) := fun w => by
      have := hasPrefix_any b 72 w (by rw [h11]; decide) (by omega)
      rwa [decide_eq_false (show ¬ Pl.byt b 0 = (72 : UInt8).toNat from h0)] at this
    clear h
    go_enter Tryz.func74, Tryz.ntmps74
    go_wp2_with fail
    refine (HP.out _).mono ?_
    rintro e w1 ⟨rfl, rfl⟩
    go_wp2_with fail
    refine bodyPost_ret (v := .tuple #[.agg #[.int .i64 0, .string ⟨#[]⟩, .int .i64 0, .int .i64 0], .bool false]) (by simp [results, Tryz.results74, go_sem]) rfl ⟨rfl, ?_⟩
    first | exact hB0 | exact (((hB0.setCell (Nat.le_refl _) _).setCell (Nat.le_refl _) _).setCell (Nat.le_refl _) _).setCell (Nat.le_refl _) _
  · have hne : ((b.size : Int) != 11) = true := by rw [bne_iff_ne]; omega
    clear h
    go_enter Tryz.func74, Tryz.ntmps74
    go_wp2_with fail
    refine bodyPost_ret (v := .tuple #[.agg #[.int .i64 0, .string ⟨#[]⟩, .int .i64 0, .int .i64 0], .bool false]) (by simp [results, Tryz.results74, go_sem]) rfl ⟨rfl, ?_⟩
    first | exact hB0 | exact (((hB0.setCell (Nat.le_refl _) _).setCell (Nat.le_refl _) _).setCell (Nat.le_refl _) _).setCell (Nat.le_refl _) _

set_option maxRecDepth 100000 in
set_option maxHeartbeats 4000000 in
theorem tread_yes (b : ByteArray) (w : World) (h11 : b.size = 11) (h72 : Pl.byt b 0 = 72) :
    Calls Tryz.prog 74 #[.string b] w fun e w' => e = .returned (.tuple #[readV b, .bool (Pl.headB b)]) ∧ Below w.heap.size w w' := by
  have hB0 := below_box w
  have hne : ((b.size : Int) != 11) = false := by rw [h11]; rfl
  have HP : Hid (∀ w, Calls Tryz.prog 84 #[.string b, .string ⟨#[72]⟩] w fun e w' => e = .returned (.bool true) ∧ w' = w) := fun w => by
    have := hasPrefix_any b 72 w (by rw [h11]; decide) (by omega)
    rwa [decide_eq_true (show Pl.byt b 0 = (72 : UInt8).toNat from h72)] at this
  have HN : Hid (∀ i j w, i + 2 = j → j ≤ 11 → Calls Tryz.prog 85 #[.string (b.extract i j)] w fun e w' => e = .returned (.int .i64 ((Pl.byt b i + 256 * Pl.byt b (i + 1) : Nat) : Int)) ∧ Below w.heap.size w w') := fun i j w hij hj => by
    have := tnumber_any (b.extract i j) w (by rw [ByteArray.size_extract]; omega)
    rw [byt_extract b i j 0 (by omega), byt_extract b i j 1 (by omega)] at this
    exact this.mono fun e w' ⟨he, n, hn⟩ => ⟨he, by rw [hn]; exact below_drewN (Below.refl _ _) n⟩
  have H1 : Hid (∀ w, Calls Tryz.prog 85 #[.string (b.extract 1 3)] w fun e w' => e = .returned (.int .i64 (Pl.hSize b : Nat)) ∧ Below w.heap.size w w') := fun w => HN.out 1 3 w rfl (by omega)
  have H2 : Hid (∀ w, Calls Tryz.prog 85 #[.string (b.extract 7 9)] w fun e w' => e = .returned (.int .i64 (Pl.hC b : Nat)) ∧ Below w.heap.size w w') := fun w => HN.out 7 9 w rfl (by omega)
  have H3 : Hid (∀ w, Calls Tryz.prog 85 #[.string (b.extract 9 11)] w fun e w' => e = .returned (.int .i64 (Pl.hS b : Nat)) ∧ Below w.heap.size w w') := fun w => HN.out 9 11 w rfl (by omega)
  have H4 : Hid (∀ w, Calls Tryz.prog 86 #[.string (b.extract 3 7)] w fun e w' => e = .returned (.string (Pl.hRoot b)) ∧ Below w.heap.size w w') := fun w => clone_any (b.extract 3 7) w (by rw [ByteArray.size_extract]; omega)
  have H5 : Hid (∀ w, Calls Tryz.prog 76 #[.agg #[.int .i64 (Pl.hSize b : Nat), .string (Pl.hRoot b)]] w fun e w' => e = .returned (.bool (decide ((0 : Int) ≤ (Pl.hSize b : Nat)) && decide (((Pl.hSize b : Nat) : Int) ≤ 40) && Pl.isSumB (Pl.hRoot b))) ∧ Below w.heap.size w w') := fun w => tmayhead_any (Pl.hSize b : Nat) (Pl.hRoot b) w (by unfold Pl.hRoot; rw [ByteArray.size_extract]; unfold maxLen; omega)
  clear HN
  go_enter Tryz.func74, Tryz.ntmps74
  go_wp2_with fail
  refine (HP.out _).mono ?_
  rintro e w1 ⟨rfl, rfl⟩
  go_upto_region 3 with fail
  go_cut [4] (fun s4 wx => ∃ A, s4 = .pointer (some ⟨A, 0, none⟩) ∧ w.heap.size < A ∧ Box wx A 59 [.int .i64 (Pl.hSize b : Nat), .string (Pl.hRoot b)] ∧ Box wx w.heap.size 91 [.int .i64 0, .string ⟨#[]⟩, .int .i64 0, .int .i64 0] ∧ Below w.heap.size w wx)
  case first =>
    go_region_with (first
      | (go_at_call 85; refine (H1.out _).mono ?_; rintro e w2 ⟨rfl, hb2⟩; first | (have B2 := (Box.new ((w.alloc (.cells #[.int .i64 0, .string ⟨#[]⟩, .int .i64 0, .int .i64 0] 91)).drew) 59 [.int .i64 0, .string ⟨#[]⟩]).grow hb2 (by simp); rw [show (w.alloc (.cells #[.int .i64 0, .string ⟨#[]⟩, .int .i64 0, .int .i64 0] 91)).drew.heap.size = w.heap.size + 1 by simp] at B2) | skip)
      | (go_at_call 86; refine (H4.out _).mono ?_; rintro e w3 ⟨rfl, hb3⟩; first | (have B3 := B2.grow hb3 B2.lt; have c0 := B3.cell 0; have c1 := B3.cell 1; have f0 := B3.frozen 0; have f1 := B3.frozen 1) | (have B3 := (Box.new w2 59 [.int .i64 0, .string ⟨#[]⟩]).grow hb3 (by simp); have c0 := B3.cell 0; have c1 := B3.cell 1; have f0 := B3.frozen 0; have f1 := B3.frozen 1) | skip))
    all_goals
      go_wp2_with fail
      go_meet
      have hS2 : Box w2 w.heap.size 91 [.int .i64 0, .string ⟨#[]⟩, .int .i64 0, .int .i64 0] := by
        first
          | exact (Box.new w 91 [.int .i64 0, .string ⟨#[]⟩, .int .i64 0, .int .i64 0]).drew.grow hb2 (by simp)
          | exact ((Box.new w 91 [.int .i64 0, .string ⟨#[]⟩, .int .i64 0, .int .i64 0]).drew.alloc _).grow hb2 (by simp; omega)
      have k2 : Below w.heap.size w w2 := by
        first
          | exact hB0.drew.trans (hb2.mono (by simp))
          | exact (hB0.drew.alloc (by simp) _).trans (hb2.mono (by simp; omega))
      have hl2 := hS2.lt
      first
        | (have hS3 := hS2.grow hb3 hl2
           have k3 : Below w.heap.size w w3 := k2.trans (hb3.mono (by omega))
           exact ⟨_, rfl, hS3.lt, Box.new w3 _ _, hS3.alloc _, k3.alloc (by have := hS3.lt; omega) _⟩)
        | (have hS3 := hS2.grow hb3 hl2
           have k3 : Below w.heap.size w w3 := k2.trans (hb3.mono (by omega))
           exact ⟨_, rfl, by omega, (B3.set 0 _).set 1 _, (hS3.other (by omega) 0 _).other (by omega) 1 _, (k3.setCell (by simp) _).setCell (by simp) _⟩)
        | (have hS3 := (hS2.alloc (.cells #[.int .i64 0, .string ⟨#[]⟩] 59)).grow hb3 (by simp; omega)
           have k3 : Below w.heap.size w w3 := (k2.alloc (by omega) _).trans (hb3.mono (by simp; omega))
           exact ⟨_, rfl, by omega, (B3.set 0 _).set 1 _, (hS3.other (by omega) 0 _).other (by omega) 1 _, (k3.setCell (by simp; omega) _).setCell (by simp; omega) _⟩)
  case rest =>
    obtain ⟨A, rfl, hA, hBx, hSg, hk⟩ := hcut
    clear H1 H4 HP hB0
    have a0 := hBx.cell 0
    have a1 := hBx.cell 1
    go_upto_region 4 with fail
    go_cut [5, 6] (fun s5 s6 wx => s5 = .int .i64 (Pl.hC b : Nat) ∧ s6 = .int .i64 (Pl.hS b : Nat) ∧ Below wc.heap.size wc wx)
    case first =>
      go_region_with (first
        | (go_at_call_of 85 (Value.string (b.extract 7 9)); refine (H2.out _).mono ?_; rintro e w4 ⟨rfl, hb4⟩)
        | (go_at_call_of 85 (Value.string (b.extract 9 11)); refine (H3.out _).mono ?_; rintro e w5 ⟨rfl, hb5⟩))
      all_goals
        go_wp2_with fail
        go_meet
        exact ⟨rfl, rfl, (Below.refl wc.heap.size wc).drew.trans (hb4.trans (hb5.mono hb4.size))⟩
    case rest =>
      obtain ⟨rfl, rfl, hb6⟩ := hcut
      have hk6 : Below w.heap.size w wc := hk.trans (hb6.mono (by have := hSg.lt; omega))
      have hS6 := hSg.grow hb6 hSg.lt
      have hA6 := hBx.grow hb6 hBx.lt
      clear hb6 hk hSg hBx a0 a1
      have a0 := hA6.cell 0
      have a1 := hA6.cell 1
      go_wp2_with fail
      refine (H5.out _).mono ?_
      rintro e w7 ⟨rfl, hb7⟩
      have hS7 := hS6.grow hb7 hS6.lt
      have hA7 := hA6.grow hb7 hA6.lt
      have hk7 : Below w.heap.size w w7 := hk6.trans (hb7.mono (by have := hS6.lt; omega))
      clear hb7 a0 a1 hS6 hA6 hk6
      have a0 := hA7.cell 0
      have a1 := hA7.cell 1
      have c0 := hS7.cell 0
      have c1 := hS7.cell 1
      have c2 := hS7.cell 2
      have c3 := hS7.cell 3
      have f0 := hS7.frozen 0
      have f1 := hS7.frozen 1
      have f2 := hS7.frozen 2
      have f3 := hS7.frozen 3
      have HH : Hid (Pl.headB b = ((decide ((0 : Int) ≤ (Pl.hSize b : Nat)) && decide (((Pl.hSize b : Nat) : Int) ≤ 40) && Pl.isSumB (Pl.hRoot b)) && decide (Pl.hC b < 1019) && decide (Pl.hS b < 1019))) := by
        show _ = _
        unfold Pl.headB
        rw [decide_eq_true h11, decide_eq_true h72, decide_eq_true (show (0 : Int) ≤ (Pl.hSize b : Nat) by omega), Bool.true_and, Bool.true_and, Bool.true_and]
        have e : decide (((Pl.hSize b : Nat) : Int) ≤ 40) = decide (Pl.hSize b ≤ 40) := by
          by_cases hq : Pl.hSize b ≤ 40
          · rw [decide_eq_true hq, decide_eq_true (by omega)]
          · rw [decide_eq_false hq, decide_eq_false (by omega)]
        rw [e]
      generalize (decide ((0 : Int) ≤ (Pl.hSize b : Nat)) && decide (((Pl.hSize b : Nat) : Int) ≤ 40) && Pl.isSumB (Pl.hRoot b)) = X at *
      have kz := (((hk7.setCell (p := ⟨w.heap.size, 0, none⟩) (Nat.le_refl _) (.int .i64 0)).setCell (p := ⟨w.heap.size, 1, none⟩) (Nat.le_refl _) (.string ⟨#[]⟩)).setCell (p := ⟨w.heap.size, 2, none⟩) (Nat.le_refl _) (.int .i64 0)).setCell (p := ⟨w.heap.size, 3, none⟩) (Nat.le_refl _) (.int .i64 0)
      have HF : Hid (Pl.headB b = false → Value.tuple #[readV b, .bool (Pl.headB b)] = .tuple #[.agg #[.int .i64 0, .string ⟨#[]⟩, .int .i64 0, .int .i64 0], .bool false]) := fun hf => by
        unfold readV
        rw [hf]
        rfl
      cases X with
      | false =>
        have HR : Hid _ := HF.out (by rw [HH.out]; rfl)
        clear HH HF
        go_wp2_with fail
        rw [HR.out]
        refine bodyPost_ret (v := .tuple #[.agg #[.int .i64 0, .string ⟨#[]⟩, .int .i64 0, .int .i64 0], .bool false]) (by simp [results, Tryz.results74, go_sem, c0, c1, c2, c3]) rfl ⟨rfl, kz⟩
      | true =>
        by_cases g3 : Pl.hC b < 1019
        · by_cases g4 : Pl.hS b < 1019
          · have HR : Hid (Value.tuple #[readV b, .bool (Pl.headB b)] = .tuple #[.agg #[.int .i64 (Pl.hSize b : Nat), .string (Pl.hRoot b), .int .i64 (Pl.hC b : Nat), .int .i64 (Pl.hS b : Nat)], .bool true]) := by
              show _ = _
              have ht : Pl.headB b = true := by rw [HH.out]; simp [g3, g4]
              unfold readV
              rw [ht]
              rfl
            clear HH HF kz
            have kz := (((hk7.setCell (p := ⟨w.heap.size, 0, none⟩) (Nat.le_refl _) (.int .i64 (Pl.hSize b : Nat))).setCell (p := ⟨w.heap.size, 1, none⟩) (Nat.le_refl _) (.string (Pl.hRoot b))).setCell (p := ⟨w.heap.size, 2, none⟩) (Nat.le_refl _) (.int .i64 (Pl.hC b : Nat))).setCell (p := ⟨w.heap.size, 3, none⟩) (Nat.le_refl _) (.int .i64 (Pl.hS b : Nat))
            go_wp2_with fail
            rw [HR.out]
            refine bodyPost_ret (v := .tuple #[.agg #[.int .i64 (Pl.hSize b : Nat), .string (Pl.hRoot b), .int .i64 (Pl.hC b : Nat), .int .i64 (Pl.hS b : Nat)], .bool true]) (by simp [results, Tryz.results74, go_sem, c0, c1, c2, c3]) rfl ⟨rfl, kz⟩
          · have HR : Hid _ := HF.out (by rw [HH.out]; simp [g4])
            clear HH HF
            go_wp2_with fail
            rw [HR.out]
            refine bodyPost_ret (v := .tuple #[.agg #[.int .i64 0, .string ⟨#[]⟩, .int .i64 0, .int .i64 0], .bool false]) (by simp [results, Tryz.results74, go_sem, c0, c1, c2, c3]) rfl ⟨rfl, kz⟩
        · have HR : Hid _ := HF.out (by rw [HH.out]; simp [g3])
          clear HH HF
          go_wp2_with fail
          rw [HR.out]
          refine bodyPost_ret (v := .tuple #[.agg #[.int .i64 0, .string ⟨#[]⟩, .int .i64 0, .int .i64 0], .bool false]) (by simp [results, Tryz.results74, go_sem, c0, c1, c2, c3]) rfl ⟨rfl, kz⟩

theorem tread_any (b : ByteArray) (w : World) :
    Calls Tryz.prog 74 #[.string b] w fun e w' => e = .returned (.tuple #[readV b, .bool (Pl.headB b)]) ∧ Below w.heap.size w w' := by
  by_cases h : b.size = 11 ∧ Pl.byt b 0 = 72
  · exact tread_yes b w h.1 h.2
  · have hf : Pl.headB b = false := by
      unfold Pl.headB
      by_cases h1 : b.size = 11
      · have h2 : ¬ Pl.byt b 0 = 72 := fun h2 => h ⟨h1, h2⟩
        simp [h2]
      · simp [h1]
    unfold readV
    rw [hf]
    exact tread_no b w (by by_cases h1 : b.size = 11; exact Or.inr fun h2 => h ⟨h1, h2⟩; exact Or.inl h1)

end Go.Proofs.YtkhnjipjbhcgdaaGreat

/-
  WHAT Key, Sign, Open, Evidence, Convicts ARE TO ANSWER (no function of any translation is named).
-/
namespace Go.Proofs.YtkhnjipjbhcgdaaGreat

/-- What Open is to answer. -/
def openE (key : Int) (b : ByteArray) : Int := if Pl.keyB key = false then 2 else if Pl.headB b = false then 3 else if Pl.rightB key.toNat b = false then 4 else 0
def openSize (key : Int) (b : ByteArray) : Nat := if openE key b = 0 then Pl.hSize b else 0
def openRoot (key : Int) (b : ByteArray) : ByteArray := if openE key b = 0 then Pl.hRoot b else ⟨#[]⟩

def textV (a b : ByteArray) : ByteArray := ⟨#[86]⟩ ++ a ++ b
/-- What Evidence is to answer. -/
def evid (key : Int) (one two : ByteArray) : ByteArray × Int :=
  if ¬ openE key one = 0 then (⟨#[]⟩, openE key one)
  else if ¬ openE key two = 0 then (⟨#[]⟩, openE key two)
  else if ¬ openSize key one = openSize key two then (⟨#[]⟩, 9)
  else if openRoot key one = openRoot key two then (⟨#[]⟩, 8)
  else if Op.bytesLess (openRoot key one).toList (openRoot key two).toList = true then (textV one two, 0)
  else (textV two one, 0)

/-- What Convicts is to answer. -/
def convE (key : Int) (v : ByteArray) : Int :=
  if Pl.keyB key = false then 2
  else if ¬ v.size = 23 then 3
  else if ¬ Pl.byt v 0 = 86 then 3
  else if Pl.headB (v.extract 1 12) = false then 3
  else if Pl.headB (v.extract 12 23) = false then 3
  else if ¬ Pl.hSize (v.extract 1 12) = Pl.hSize (v.extract 12 23) then 3
  else if Op.bytesLess (Pl.hRoot (v.extract 1 12)).toList (Pl.hRoot (v.extract 12 23)).toList = false then 3
  else if Pl.rightB key.toNat (v.extract 1 12) = false then 4
  else if Pl.rightB key.toNat (v.extract 12 23) = false then 4
  else 0

/-- What Key is to answer. -/
def keyAns (secret : Int) : Value := if 1 ≤ secret ∧ secret ≤ 1018 then .tuple #[.int .i64 (Pl.powM 4 secret.toNat : Nat), .int .i64 0] else .tuple #[.int .i64 0, .int .i64 1]
def signS (secret nonce size : Int) (root : ByteArray) : ByteArray := if Pl.signB secret nonce size root = true then Pl.signT secret.toNat nonce.toNat size.toNat root else ⟨#[]⟩
def signE (secret nonce size : Int) (root : ByteArray) : Int := if Pl.signB secret nonce size root = true then 0 else 1

end Go.Proofs.YtkhnjipjbhcgdaaGreat
