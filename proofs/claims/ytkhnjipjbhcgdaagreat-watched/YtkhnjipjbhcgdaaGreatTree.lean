import Derived.Test.YtkhnjipjbhcgdaaGreatPlainT
import Derived.Test.YtkhnjipjbhcgdaaGreatHand
import Derived.Deep.RegionWith
/-
  THE WALK of treeheadlaw.Sums.
-/
namespace Go.Proofs.YtkhnjipjbhcgdaaGreat
open Go.RowKit

/-- The texts joined. -/
def catB (ss : List ByteArray) : ByteArray := ⟨(Pl.cat ss).toArray⟩
theorem catB_toList (ss : List ByteArray) : (catB ss).data.toList = Pl.cat ss := by simp [catB]
theorem catB_size (ss : List ByteArray) : (catB ss).size = (Pl.cat ss).length := by simp [catB, ByteArray.size]
theorem catB_take (ss : List ByteArray) (k : Nat) (h : k < ss.length) : catB (ss.take (k + 1)) = catB (ss.take k) ++ ss[k] := by
  apply ByteArray.ext
  simp [catB, Pl.cat_take ss k h, ByteArray.data_append]
theorem cat_take_le (ss : List ByteArray) (k : Nat) : (Pl.cat (ss.take k)).length ≤ (Pl.cat ss).length := by
  have h := congrArg List.length (Pl.cat_append (ss.take k) (ss.drop k))
  rw [List.take_append_drop, List.length_append] at h
  omega

theorem Row.grow {B : Nat} {w w' : World} {p : Option Addr} {ss : List ByteArray} (hr : Row w p ss) (h : Below B w w') (hB : w.heap.size ≤ B) : Row w' p ss := by
  refine ⟨hr.len, hr.size, ?_⟩
  rcases hr.cell with h0 | ⟨b, o, rfl, hb, hc⟩
  · exact Or.inl h0
  · exact Or.inr ⟨b, o, rfl, by have := h.size; omega, fun i hi => by rw [h.cell (p := ⟨b, o + i, none⟩) (show b < B by omega)]; exact hc i hi⟩
theorem Row.new (w : World) (ss : List ByteArray) (hl : ss.length ≤ maxLen) (hs : ∀ s ∈ ss, s.size ≤ maxLen) : Row (w.alloc (.cells (rowOf ss 8).toArray 9)) (some ⟨w.heap.size, 0, none⟩) ss := by
  refine ⟨hl, hs, Or.inr ⟨w.heap.size, 0, rfl, by simp, fun i hi => ?_⟩⟩
  rw [Nat.zero_add, World.cell?_alloc_mark, List.getElem?_toArray]
  exact rowOf_at ss i hi

theorem Row.ne {w : World} {p : Option Addr} {ss : List ByteArray} {B : Nat} (hr : Row w p ss) (hB : w.heap.size ≤ B) : ∀ b o, ss ≠ [] → p = some ⟨b, o, none⟩ → b ≠ B := by
  intro b o hs he
  rcases hr.cell with h0 | ⟨b', o', h1, hb', _⟩
  · exact absurd h0 hs
  · rw [he] at h1
    simp at h1
    omega

theorem rsum_of (s : ByteArray) (l : List UInt8) (w : World) (hs : s.size ≤ maxLen) (hl : s.data.toList = l) :
    Calls Tryz.prog 24 #[.string s] w fun e w' => e = .returned (.string (Pl.sum l)) ∧ ∃ n, w' = w.drewN n := by
  subst hl
  exact rsum_any s w hs

theorem row_nil (w : World) : Row w none [] := ⟨by simp, by simp, Or.inl rfl⟩

end Go.Proofs.YtkhnjipjbhcgdaaGreat

/-
  THE WALKS of treeheadkeep.pick and treeheadkeep.number; a Row in a literal; Sum by what it is the sum of.
-/
namespace Go.Proofs.YtkhnjipjbhcgdaaGreat
open Go.RowKit

/-- Which of n things the raw number c speaks of. -/
def pickOf (c n : Int) : Int := (if c < 0 then -(c + 1) else c) % n
theorem pickOf_nonneg (c n : Int) (h : 0 < n) : 0 ≤ pickOf c n := Int.emod_nonneg _ (by omega)
theorem pickOf_lt (c n : Int) (h : 0 < n) : pickOf c n < n := Int.emod_lt_of_pos _ h

theorem hex_small (d : Nat) (h : d < 10) : (Pl.hex d).toNat = 48 + d := by
  have hk : ∀ k : Fin 10, (Pl.hex k.val).toNat = 48 + k.val := by decide +kernel
  exact hk ⟨d, h⟩
theorem hex_great (d : Nat) (h : d < 16) (h2 : ¬ d < 10) : (Pl.hex d).toNat = 87 + d := by
  have hk : ∀ k : Fin 16, ¬ k.val < 10 → (Pl.hex k.val).toNat = 87 + k.val := by decide +kernel
  exact hk ⟨d, h⟩ h2

def valOf (l : List Nat) : Nat := l.foldl (fun n d => 16 * n + d) 0
theorem valOf_snoc (l : List Nat) (d : Nat) : valOf (l ++ [d]) = 16 * valOf l + d := by simp [valOf]
theorem valOf_lt : ∀ (l : List Nat) (k : Nat), (∀ d ∈ l, d < 16) → valOf (l.take k) < 16 ^ k
  | l, 0, _ => by simp [valOf]
  | l, k + 1, h => by
    have ih := valOf_lt l k h
    by_cases hk : k < l.length
    · rw [List.take_succ_eq_append_getElem hk, valOf_snoc, Nat.pow_succ]
      have := h l[k] (List.getElem_mem _)
      omega
    · rw [List.take_of_length_le (by omega)] at ih ⊢
      rw [Nat.pow_succ]
      omega

/-- Texts in a literal of the law's own. -/
theorem Row.lit (w : World) (ss : List ByteArray) (hl : ss.length ≤ maxLen) (hs : ∀ s ∈ ss, s.size ≤ maxLen) : Row (w.alloc (.cells (ss.map Value.string).toArray 9)) (some ⟨w.heap.size, 0, none⟩) ss := by
  refine ⟨hl, hs, Or.inr ⟨w.heap.size, 0, rfl, by simp, fun i hi => ?_⟩⟩
  rw [Nat.zero_add, World.cell?_alloc_mark, List.getElem?_toArray]
  simp [hi]

theorem byte_nat (b : Nat) (hb : b < 256) : (UInt8.ofNat b).toNat = b := by
  rw [UInt8.toNat_ofNat', Nat.mod_eq_of_lt (by simpa using hb)]
theorem one_byte (b : Nat) (hb : b < 256) (w : World) :
    (convert 87 9 (.slice (some ⟨w.heap.size, 0, none⟩) 1 1)).run Tryz.prog (w.alloc (.cells #[.int .u8 (b : Int)] 5)) =
      .ok (.string ⟨#[UInt8.ofNat b]⟩) (w.alloc (.cells #[.int .u8 (b : Int)] 5)) := by
  have e : ((UInt8.ofNat b).toNat : Int) = (b : Int) := by
    rw [UInt8.toNat_ofNat', Nat.mod_eq_of_lt (by simpa using hb)]
  have h := run_convert_bytes_back (P := Tryz.prog) (w.alloc (.cells #[.int .u8 ((UInt8.ofNat b).toNat : Int)] 5)) 87 9 5 ⟨w.heap.size, 0, none⟩ 1 [UInt8.ofNat b] Tryz.underlying87 Tryz.underlying5 Tryz.underlying9 (by
    intro j hj
    rw [add_plain, World.cell?_alloc_mark]
    match j, hj with
    | 0, _ => rfl)
  rw [e] at h
  exact h

end Go.Proofs.YtkhnjipjbhcgdaaGreat

/-
  THE WALKS of tree.split, treeheadref.below, tree.Root, treeheadref.root.
-/
namespace Go.Proofs.YtkhnjipjbhcgdaaGreat
open Go.RowKit

set_option maxRecDepth 100000 in
set_option maxHeartbeats 400000 in
theorem split_any (n : Nat) (w : World) (h1 : 2 ≤ n) (h2 : n ≤ 64) :
    Calls Tryz.prog 59 #[.int .i64 n] w fun e w' => e = .returned (.int .i64 (Pl.half n : Nat)) ∧ w' = w := by
  go_enter Tryz.func59, Tryz.ntmps59
  go_wp2
  go_loop [3] (fun t => ∃ k : Nat, (k = 1 ∨ k = 2 ∨ k = 4 ∨ k = 8 ∨ k = 16 ∨ k = 32) ∧ k < n ∧ t = .int .i64 k) (fun t => n - (intOf t).toNat)
  case atStart => exact ⟨1, Or.inl rfl, by omega, rfl⟩
  case round =>
    obtain ⟨k, hk, hkn, rfl⟩ := hrel
    have hk32 : 1 ≤ k ∧ k ≤ 32 := by omega
    have HK : Hid _ := hk
    clear hk
    obtain ⟨hk1, hk2⟩ := hk32
    by_cases hlt : 2 * k < n
    · go_wp2
      go_round
      case rel => exact ⟨k * 2, by have := HK.out; omega, by omega, by go_num⟩
      case measure => simp [intOf]; omega
    · have HE : Hid _ := Pl.half_of n k HK.out hkn (by omega)
      go_wp2
      go_ret
      exact ⟨ret_int (by rw [HE.out]), rfl⟩

set_option maxRecDepth 100000 in
set_option maxHeartbeats 400000 in
theorem below_any (n : Nat) (w : World) (h1 : 2 ≤ n) (h2 : n ≤ 64) :
    Calls Tryz.prog 25 #[.int .i64 n] w fun e w' => e = .returned (.int .i64 (Pl.half n : Nat)) ∧ w' = w := by
  go_enter Tryz.func25, Tryz.ntmps25
  go_wp2
  go_loop [3] (fun t => ∃ k : Nat, (k = 1 ∨ k = 2 ∨ k = 4 ∨ k = 8 ∨ k = 16 ∨ k = 32) ∧ n ≤ 2 * k ∧ t = .int .i64 k) (fun t => (intOf t).toNat)
  case atStart => exact ⟨32, by omega, by omega, rfl⟩
  case round =>
    obtain ⟨k, hk, hkn, rfl⟩ := hrel
    have hk32 : 1 ≤ k ∧ k ≤ 32 := by omega
    have HK : Hid _ := hk
    clear hk
    obtain ⟨hk1, hk2⟩ := hk32
    by_cases hlt : n ≤ k
    · go_wp2
      go_round
      case rel => exact ⟨k / 2, by have := HK.out; omega, by have := HK.out; omega, by go_num⟩
      case measure => simp [intOf]; omega
    · have HE : Hid _ := Pl.half_of n k HK.out (by omega) hkn
      go_wp2
      go_ret
      exact ⟨ret_int (by rw [HE.out]), rfl⟩

theorem Row.drew {w : World} {p : Option Addr} {ss : List ByteArray} (hr : Row w p ss) : Row w.drew p ss := hr.grow (Below.refl _ _).drew (Nat.le_refl _)
theorem Row.take {w : World} {p : Option Addr} {ss : List ByteArray} (hr : Row w p ss) (k : Nat) : Row w p (ss.take k) := by
  refine ⟨by have := hr.len; rw [List.length_take]; omega, fun s hs => hr.size s (List.mem_of_mem_take hs), ?_⟩
  rcases hr.cell with h0 | ⟨b, o, rfl, hb, hc⟩
  · exact Or.inl (by rw [h0, List.take_nil])
  · refine Or.inr ⟨b, o, rfl, hb, fun i hi => ?_⟩
    rw [List.length_take] at hi
    rw [hc i (by omega), List.getElem_take]
theorem Row.drop {w : World} {b o : Nat} {ss : List ByteArray} (hr : Row w (some ⟨b, o, none⟩) ss) (k : Nat) : Row w (some ⟨b, o + k, none⟩) (ss.drop k) := by
  refine ⟨by have := hr.len; rw [List.length_drop]; omega, fun s hs => hr.size s (List.mem_of_mem_drop hs), ?_⟩
  rcases hr.cell with h0 | ⟨b', o', he, hb, hc⟩
  · exact Or.inl (by rw [h0, List.drop_nil])
  · simp only [Option.some.injEq, Addr.mk.injEq, and_true] at he
    obtain ⟨rfl, rfl⟩ := he
    refine Or.inr ⟨b, o + k, rfl, hb, fun i hi => ?_⟩
    rw [List.length_drop] at hi
    rw [Nat.add_assoc, hc (k + i) (by omega), List.getElem_drop]

theorem of_of (p : Option Addr) (cap : Nat) (ss : List ByteArray) (l : List UInt8) (w : World) (hr : Row w p ss) (hl : Pl.cat ss = l) :
    Calls Tryz.prog 73 #[.slice p ss.length cap] w fun e w' => e = .returned (.string (Pl.sum l)) ∧ Below w.heap.size w w' := by
  subst hl
  exact of_any p cap ss w hr
theorem cat3 (c : UInt8) (a b : ByteArray) : Pl.cat [⟨#[c]⟩, a, b] = c :: (a.data.toList ++ b.data.toList) := by simp [Pl.cat]
theorem cat2 (c : UInt8) (a : ByteArray) : Pl.cat [⟨#[c]⟩, a] = c :: a.data.toList := by simp [Pl.cat]
theorem lit1 {a : ByteArray} (ha : a.size ≤ maxLen) : ∀ s ∈ [a], s.size ≤ maxLen := by
  intro s hs
  simp only [List.mem_cons, List.not_mem_nil, or_false] at hs
  rw [hs]; exact ha
theorem lit2 {a b : ByteArray} (ha : a.size ≤ maxLen) (hb : b.size ≤ maxLen) : ∀ s ∈ [a, b], s.size ≤ maxLen := by
  intro s hs
  simp only [List.mem_cons, List.not_mem_nil, or_false] at hs
  rcases hs with rfl | rfl
  · exact ha
  · exact hb
theorem lit3 {a b c : ByteArray} (ha : a.size ≤ maxLen) (hb : b.size ≤ maxLen) (hc : c.size ≤ maxLen) : ∀ s ∈ [a, b, c], s.size ≤ maxLen := by
  intro s hs
  simp only [List.mem_cons, List.not_mem_nil, or_false] at hs
  rcases hs with rfl | rfl | rfl
  · exact ha
  · exact hb
  · exact hc

set_option maxRecDepth 100000 in
set_option maxHeartbeats 1000000 in
theorem root_zero (p : Option Addr) (cap : Nat) (w : World) :
    Calls Tryz.prog 60 #[.slice p 0 cap] w fun e w' => e = .returned (.string (Pl.root [])) ∧ Below w.heap.size w w' := by
  go_enter Tryz.func60, Tryz.ntmps60
  go_wp2_with fail
  refine (of_any (some ⟨w.heap.size, 0, none⟩) 1 [⟨#[69]⟩] _ (Row.lit w [⟨#[69]⟩] (by simp [maxLen]) (lit1 (by decide)))).mono ?_
  rintro e w1 ⟨rfl, hb⟩
  go_wp2_with fail
  go_ret
  exact ⟨rfl, ((Below.refl _ _).alloc (Nat.le_refl _) _).trans (hb.mono (by simp))⟩

set_option maxRecDepth 100000 in
set_option maxHeartbeats 1000000 in
theorem root_one (b o cap : Nat) (s : ByteArray) (w : World) (hc : w.cell? ⟨b, o, none⟩ = some (.string s)) (hs : s.size ≤ maxLen) :
    Calls Tryz.prog 60 #[.slice (some ⟨b, o, none⟩) 1 cap] w fun e w' => e = .returned (.string (Pl.root [s])) ∧ Below w.heap.size w w' := by
  go_enter Tryz.func60, Tryz.ntmps60
  go_wp2_with fail
  refine (of_any (some ⟨w.heap.size, 0, none⟩) 2 [⟨#[76]⟩, s] _ (Row.lit w [⟨#[76]⟩, s] (by simp [maxLen]) (lit2 (by decide) hs))).mono ?_
  rintro e w1 ⟨rfl, hb⟩
  go_wp2_with fail
  go_ret
  exact ⟨rfl, ((Below.refl _ _).alloc (Nat.le_refl _) _).trans (hb.mono (by simp))⟩

theorem root_le (ss : List ByteArray) : (Pl.root ss).size ≤ maxLen := by rw [Pl.root_size]; decide

set_option maxRecDepth 100000 in
set_option maxHeartbeats 1000000 in
/-- More than one leaf, by what is known of fewer ones. -/
theorem root_many (b o cap : Nat) (ss : List ByteArray) (w : World) (h2 : 2 ≤ ss.length) (h40 : ss.length ≤ 40) (hcap : ss.length ≤ cap) (hcm : cap ≤ 9223372036854775807) (hr : Row w (some ⟨b, o, none⟩) ss)
    (ih : ∀ (p : Option Addr) (cap : Nat) (ss' : List ByteArray) (w : World), ss'.length < ss.length → ss'.length ≤ cap → cap ≤ 9223372036854775807 → Row w p ss' →
      Calls Tryz.prog 60 #[.slice p ss'.length cap] w fun e w' => e = .returned (.string (Pl.root ss')) ∧ Below w.heap.size w w') :
    Calls Tryz.prog 60 #[.slice (some ⟨b, o, none⟩) ss.length cap] w fun e w' => e = .returned (.string (Pl.root ss)) ∧ Below w.heap.size w w' := by
  have hp := Pl.half_pos ss.length
  have hl := Pl.half_lt ss.length h2
  have e1 : (ss.take (Pl.half ss.length)).length = Pl.half ss.length := by rw [List.length_take]; omega
  have e2 : (ss.drop (Pl.half ss.length)).length = ss.length - Pl.half ss.length := by rw [List.length_drop]
  have hsp := fun w => split_any ss.length w h2 (by omega)
  have HA : Hid (∀ w, Row w (some ⟨b, o, none⟩) ss → Calls Tryz.prog 60 #[.slice (some ⟨b, o, none⟩) (Pl.half ss.length) cap] w fun e w' => e = .returned (.string (Pl.root (ss.take (Pl.half ss.length)))) ∧ Below w.heap.size w w') := by
    intro w hr
    have := ih (some ⟨b, o, none⟩) cap (ss.take (Pl.half ss.length)) w (by rw [e1]; exact hl) (by rw [e1]; omega) hcm (hr.take _)
    rwa [e1] at this
  have HB : Hid (∀ w, Row w (some ⟨b, o, none⟩) ss → Calls Tryz.prog 60 #[.slice (some ⟨b, o + Pl.half ss.length, none⟩) (ss.length - Pl.half ss.length) (cap - Pl.half ss.length)] w fun e w' => e = .returned (.string (Pl.root (ss.drop (Pl.half ss.length)))) ∧ Below w.heap.size w w') := by
    intro w hr
    have := ih (some ⟨b, o + Pl.half ss.length, none⟩) (cap - Pl.half ss.length) (ss.drop (Pl.half ss.length)) w (by omega) (by omega) (by omega) (hr.drop _)
    rwa [e2] at this
  have HE : Hid _ := Pl.root_more ss h2
  have HR : Hid _ := hr
  have HS : Hid _ := hsp
  have hne1 : ((ss.length : Int) == 0) = false := beq_eq_false_iff_ne.2 (by omega)
  have hne2 : ((ss.length : Int) == 1) = false := beq_eq_false_iff_ne.2 (by omega)
  clear hr ih e1 e2 hsp
  generalize Pl.half ss.length = k at *
  generalize ss.take k = s1 at *
  generalize ss.drop k = s2 at *
  go_enter Tryz.func60, Tryz.ntmps60
  go_wp2_with fail
  refine (HS.out _).mono ?_
  rintro e w1 ⟨rfl, rfl⟩
  go_wp2_with fail
  go_region_with (first
    | (go_at_call_of 60 (Value.slice (some ⟨b, o, none⟩) k cap); refine (HA.out _ ?_).mono ?_; exact HR.out.drew; rintro e w2 ⟨rfl, hb2⟩)
    | (go_at_call_of 60 (Value.slice (some ⟨b, o + k, none⟩) (ss.length - k) (cap - k)); refine (HB.out _ ?_).mono ?_; exact HR.out.drew.grow hb2 (Nat.le_refl _); rintro e w3 ⟨rfl, hb3⟩)
    | (go_at_call 73; refine (of_of (some ⟨w3.heap.size, 0, none⟩) 3 [⟨#[78]⟩, Pl.root s1, Pl.root s2] (78 :: ((Pl.root s1).data.toList ++ (Pl.root s2).data.toList)) _ ?_ (cat3 _ _ _)).mono ?_; exact Row.lit w3 [⟨#[78]⟩, Pl.root s1, Pl.root s2] (by simp [maxLen]) (lit3 (by decide) (root_le _) (root_le _)); rintro e w4 ⟨rfl, hb4⟩))
  all_goals
    go_wp2_with fail
    go_ret
    rw [HE.out]
    refine ⟨rfl, ?_⟩
    have k1 := hb2.trans (hb3.mono hb2.size)
    exact ((Below.refl w1.heap.size w1).drew.trans k1).trans (((Below.refl w1.heap.size w3).alloc (by have := k1.size; simpa using this) _).trans (hb4.mono (by have := k1.size; simp at this ⊢; omega)))

theorem root_any : ∀ (n : Nat) (p : Option Addr) (cap : Nat) (ss : List ByteArray) (w : World), ss.length ≤ n → ss.length ≤ 40 → ss.length ≤ cap → cap ≤ 9223372036854775807 → Row w p ss →
    Calls Tryz.prog 60 #[.slice p ss.length cap] w fun e w' => e = .returned (.string (Pl.root ss)) ∧ Below w.heap.size w w' := by
  intro n
  induction n with
  | zero =>
    intro p cap ss w h _ _ _ _
    obtain rfl : ss = [] := List.eq_nil_of_length_eq_zero (by omega)
    exact root_zero p cap w
  | succ n ih =>
    intro p cap ss w h h40 hc hm hr
    rcases hr.cell with rfl | ⟨b, o, rfl, hb, hcell⟩
    · exact root_zero p cap w
    · by_cases h1 : ss.length = 1
      · obtain ⟨s, rfl⟩ := List.length_eq_one_iff.1 h1
        exact root_one b o cap s w (hcell 0 (by omega)) (hr.size s (by simp))
      · by_cases h0 : ss.length = 0
        · obtain rfl : ss = [] := List.eq_nil_of_length_eq_zero h0
          exact root_zero _ cap w
        · exact root_many b o cap ss w (by omega) h40 hc hm hr (fun p cap ss' w hl hc hm hr => ih p cap ss' w (by omega) (by omega) hc hm hr)

end Go.Proofs.YtkhnjipjbhcgdaaGreat
