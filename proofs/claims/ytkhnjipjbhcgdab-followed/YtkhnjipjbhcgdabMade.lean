import Derived.Test.YtkhnjipjbhcgdabPlainX
import Derived.Test.YtkhnjipjbhcgdabTEvid
/-
  WHAT IS SIGNED OPENS; EVIDENCE OF TWO HEADS CONVICTS: of the plain answers.
-/
namespace Go.Proofs.Ytkhnjipjbhcgdab
open Hp

theorem sign_open (x n z : Nat) (r : ByteArray) (h1 : 1 ≤ x) (h2 : x ≤ 1018) (h3 : n ≤ 1018) (h4 : z ≤ 40) (h5 : Pl.isSumB r = true) :
    Pl.keyB (Pl.powM 4 x : Int) = true ∧ Pl.headB (Pl.signT x n z r) = true ∧ Pl.rightB (Pl.powM 4 x) (Pl.signT x n z r) = true ∧ Pl.hSize (Pl.signT x n z r) = z ∧ Pl.hRoot (Pl.signT x n z r) = r ∧ (Pl.signT x n z r).size = 11 := by
  have hc := Pl.said_lt (Pl.powM 4 x) (Pl.powM 4 n) z r
  have hd := Pl.less_lt x n (Pl.said (Pl.powM 4 x) (Pl.powM 4 n) z r) (by omega)
  obtain ⟨e1, e2, e3, e4, e5, e6⟩ := Pl.head_read z r _ _ h4 h5 hc hd
  have hh := Pl.headB_text z r _ _ h4 h5 hc hd
  have hp := Pl.right_pow x n (Pl.said (Pl.powM 4 x) (Pl.powM 4 n) z r) h2 (by omega)
  refine ⟨Pl.keyB_at x h1 h2 rfl, hh, ?_, e3, e4, e1⟩
  unfold Pl.rightB Pl.signT
  rw [e3, e4, e5, e6, hp]
  exact decide_eq_true rfl
theorem sign_openE (x n z : Nat) (r : ByteArray) (h1 : 1 ≤ x) (h2 : x ≤ 1018) (h3 : n ≤ 1018) (h4 : z ≤ 40) (h5 : Pl.isSumB r = true) :
    openE (Pl.powM 4 x : Int) (Pl.signT x n z r) = 0 ∧ openSize (Pl.powM 4 x : Int) (Pl.signT x n z r) = z ∧ openRoot (Pl.powM 4 x : Int) (Pl.signT x n z r) = r := by
  obtain ⟨a, b, c, d, e, _⟩ := sign_open x n z r h1 h2 h3 h4 h5
  have ho : openE (Pl.powM 4 x : Int) (Pl.signT x n z r) = 0 := by
    unfold openE
    rw [a, b, Int.toNat_natCast, c]
    rfl
  unfold openSize openRoot
  rw [if_pos ho, if_pos ho, d, e]
  exact ⟨ho, rfl, rfl⟩

theorem evid_same (k : Int) (a b : ByteArray) (ha : openE k a = 0) (hb : openE k b = 0) (hs : openSize k a = openSize k b) (hr : openRoot k a = openRoot k b) : evid k a b = (⟨#[]⟩, 8) := by
  unfold evid
  rw [if_neg (not_not_intro ha), if_neg (not_not_intro hb), if_neg (not_not_intro hs), if_pos hr]
theorem evid_two (k : Int) (a b : ByteArray) (ha : openE k a = 0) (hb : openE k b = 0) (hs : openSize k a = openSize k b) (hr : ¬ openRoot k a = openRoot k b) :
    evid k a b = (if Op.bytesLess (openRoot k a).toList (openRoot k b).toList = true then textV a b else textV b a, 0) := by
  unfold evid
  rw [if_neg (not_not_intro ha), if_neg (not_not_intro hb), if_neg (not_not_intro hs), if_neg hr]
  split <;> rfl
theorem less_self : ∀ x : List UInt8, Op.bytesLess x x = false := by
  intro x
  induction x with
  | nil => rfl
  | cons a x ih =>
    unfold Op.bytesLess
    rw [ih, Bool.and_false, Bool.or_false]
    exact decide_eq_false (UInt8.lt_irrefl a)
theorem evid_flip (k : Int) (a b : ByteArray) (ha : openE k a = 0) (hb : openE k b = 0) (hs : openSize k a = openSize k b) (hr : ¬ openRoot k a = openRoot k b) : evid k b a = evid k a b := by
  rw [evid_two k a b ha hb hs hr, evid_two k b a hb ha hs.symm (fun h => hr h.symm), less_flip _ _ (toList_ne hr)]
  cases Op.bytesLess (openRoot k a).toList (openRoot k b).toList <;> rfl

theorem textV_parts (a b : ByteArray) (ha : a.size = 11) (hb : b.size = 11) : (textV a b).size = 23 ∧ Pl.byt (textV a b) 0 = 86 ∧ (textV a b).extract 1 12 = a ∧ (textV a b).extract 12 23 = b := by
  have la : a.data.toList.length = 11 := by simpa using ha
  have lb : b.data.toList.length = 11 := by simpa using hb
  have hd : (textV a b).data.toList = 86 :: (a.data.toList ++ b.data.toList) := by
    unfold textV
    simp [ByteArray.data_append]
  have hsz : (textV a b).size = 23 := by
    have : (textV a b).data.toList.length = 23 := by rw [hd]; simp [la, lb]
    simpa using this
  refine ⟨hsz, ?_, ?_, ?_⟩
  · unfold Pl.byt
    rw [hd]
    rfl
  · apply ByteArray.ext
    apply Array.ext'
    rw [Lib.extract_data, hd]
    simp [la]
  · apply ByteArray.ext
    apply Array.ext'
    rw [Lib.extract_data, hd, show (12 : Nat) = 11 + 1 from rfl, List.drop_succ_cons, List.drop_append]
    simp [la]
    rw [List.drop_of_length_le (Nat.le_of_eq la), List.nil_append, List.take_of_length_le (Nat.le_of_eq lb)]
theorem conv_ok (k : Nat) (a b : ByteArray) (hk : Pl.keyB (k : Int) = true) (ha : Pl.headB a = true) (hb : Pl.headB b = true) (hs : Pl.hSize a = Pl.hSize b) (hl : Op.bytesLess (Pl.hRoot a).toList (Pl.hRoot b).toList = true) (ra : Pl.rightB k a = true) (rb : Pl.rightB k b = true) (za : a.size = 11) (zb : b.size = 11) :
    convE (k : Int) (textV a b) = 0 := by
  obtain ⟨e1, e2, e3, e4⟩ := textV_parts a b za zb
  unfold convE
  rw [e3, e4, hk, if_neg (by simp), if_neg (not_not_intro e1), if_neg (not_not_intro e2), ha, hb, if_neg (by simp), if_neg (by simp), if_neg (not_not_intro hs), hl, if_neg (by simp), Int.toNat_natCast, ra, rb, if_neg (by simp), if_neg (by simp)]
theorem conv_same (k : Nat) (a : ByteArray) (hk : Pl.keyB (k : Int) = true) (ha : Pl.headB a = true) (za : a.size = 11) : convE (k : Int) (textV a a) = 3 := by
  obtain ⟨e1, e2, e3, e4⟩ := textV_parts a a za za
  unfold convE
  rw [e3, e4, hk, if_neg (by simp), if_neg (not_not_intro e1), if_neg (not_not_intro e2), ha, if_neg (by simp), if_neg (by simp), if_neg (not_not_intro rfl), less_self, if_pos rfl]
end Go.Proofs.Ytkhnjipjbhcgdab
