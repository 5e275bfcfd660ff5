import Derived.Test.YtkhnjipjbhcgdabLeaves
/-
  THE WALK of treeheadkeep.leaves: a row of the law's own.
-/
namespace Go.Proofs.Ytkhnjipjbhcgdab
open Go.RowKit

theorem infoStr : (Try.prog.info? 9).map (fun i => (i.zero, i.size, i.bytes)) = some (some (.string ByteArray.empty), 1, 16) := by kernel_rfl

def firstB : ByteArray := ⟨#[102, 105, 114, 115, 116]⟩
/-- A text cut to thirty bytes. -/
def cut30 (s : ByteArray) : ByteArray := if 30 < s.size then s.extract 0 30 else s
theorem cut30_size (s : ByteArray) : (cut30 s).size ≤ 30 := by
  unfold cut30
  split
  · rw [ByteArray.size_extract]; omega
  · omega
/-- A first text, and so many of the others. -/
def lv (ss : List ByteArray) (k : Nat) : List ByteArray := firstB :: (ss.take k).map cut30
theorem lv_length (ss : List ByteArray) (k : Nat) (h : k ≤ ss.length) : (lv ss k).length = k + 1 := by simp [lv]; omega
theorem lv_snoc (ss : List ByteArray) (k : Nat) (h : k < ss.length) : lv ss (k + 1) = lv ss k ++ [cut30 ss[k]] := by
  unfold lv
  rw [List.take_succ_eq_append_getElem h, List.map_append]
  rfl
theorem lv_sizes (ss : List ByteArray) (k : Nat) : ∀ s ∈ lv ss k, s.size ≤ 30 := by
  intro s hs
  simp only [lv, List.mem_cons, List.mem_map] at hs
  rcases hs with rfl | ⟨x, _, rfl⟩
  · decide
  · exact cut30_size x

/-- A row of the call's own: the texts ss behind the value v. -/
def Own (w : World) (B : Nat) (v : Value) (ss : List ByteArray) : Prop := w.ownsRow B 9 1 v ss.length (ss.map Value.string)
theorem Own.open {w : World} {B : Nat} {v : Value} {ss : List ByteArray} (h : Own w B v ss) (hne : ss ≠ []) (hs : ∀ s ∈ ss, s.size ≤ maxLen) (hl : ss.length ≤ maxLen) :
    ∃ g cap, v = .slice (some ⟨g, 0, none⟩) ss.length cap ∧ B ≤ g ∧ ss.length ≤ cap ∧ cap ≤ maxLen ∧ Row w (some ⟨g, 0, none⟩) ss := by
  have hlt := World.ownsRow.lt h
  rcases h.2 with ⟨_, h0⟩ | ⟨g, cap, cur, rfl, hb, hg, hc, hm, hz, ht⟩
  · exact absurd (List.eq_nil_of_length_eq_zero h0) hne
  · refine ⟨g, cap, rfl, hb, hc, hm, hl, hs, Or.inr ⟨g, 0, rfl, (hlt g rfl).2, fun i hi => ?_⟩⟩
    have := World.ownsRow.cells h (g := g) rfl i (.string ss[i]) (by simp [hi])
    rwa [add_plain] at this

theorem own_step {w wr w' : World} {B : Nat} {v v' : Value} {ss : List ByteArray} {s : ByteArray} (hb : Below B w wr) (hB : B ≤ wr.heap.size) (h : Own wr B v ss)
    (o : Obj) (h2 : w'.ownsRow B 9 1 v' (ss.length + 1) (ss.map Value.string ++ [.string s])) (hg : (wr.alloc o).grownBy w' v.ownBlock) : Own w' B v' (ss ++ [s]) ∧ Below B w w' := by
  refine ⟨?_, ?_⟩
  · unfold Own
    rw [List.length_append, List.map_append]
    exact h2
  · exact (hb.alloc hB o).grown hg (by simp; omega) (fun k hk => (World.ownsRow.lt h k hk).1)

set_option maxRecDepth 100000 in
set_option maxHeartbeats 2000000 in
theorem leaves_any (p : Option Addr) (cap : Nat) (ss : List ByteArray) (m : Nat) (w : World) (hr : Row w p ss) (hm : m ≤ 40) :
    Calls Try.prog 15 #[.slice p ss.length cap, .int .i64 m] w fun e w' => ∃ v, e = .returned v ∧ Own w' w.heap.size v (lv ss (min m ss.length)) ∧ Below w.heap.size w w' := by
  obtain ⟨i0, hi, hz0, hz1, hz2⟩ := info_parts infoStr
  have hlen : ss.length ≤ 9223372036854775807 := hr.len
  have HR : Hid _ := hr
  clear hr
  go_enter Try.func15, Try.ntmps15
  go_wp2_with fail
  go_loopw [5, 6] (fun v i wr => ∃ k : Nat, k ≤ ss.length ∧ k ≤ m ∧ i = .int .i64 k ∧ Hid (Own wr w.heap.size v (lv ss k)) ∧ Below w.heap.size w wr) (fun _ i _ => m - (intOf i).toNat)
  case atStart => exact ⟨0, by omega, by omega, rfl, ⟨rfl, Or.inr ⟨w.heap.size, 1, _, rfl, Nat.le_refl _, heap_alloc_new w _, Nat.le_refl _, by decide, rfl, rfl⟩⟩, (Below.refl _ _).alloc (Nat.le_refl _) _⟩
  case round =>
    obtain ⟨k, hk, hkm, rfl, HO, hb⟩ := hrel
    have hbs := hb.size
    by_cases h1 : k < ss.length
    · by_cases h2 : k < m
      · rcases (HR.out.grow hb (Nat.le_refl _)).cell with h0 | ⟨b, o, hp, _, hcell⟩
        · rw [h0] at h1; exact absurd h1 (by simp)
        · have hck := hcell k h1
          subst hp
          have HL : Hid _ := lv_snoc ss k h1
          have HN : Hid _ := lv_length ss k (by omega)
          clear hcell HR
          generalize ss[k] = s at *
          by_cases h30 : 30 < s.size
          · have HC : Hid (cut30 s = s.extract 0 30) := if_pos h30
            go_wp2_with (at_builtin; refine wpList_append_own _ rfl _ _ 39 rfl w.heap.size 9 i0 (.string ByteArray.empty) 1 16 Try.underlying39 hi hz0 hz1 hz2 rfl (by decide) _ _ _ rfl (HO.out.alloc _) ⟨wr.heap.size, 0, none⟩ 1 1 [.string (s.extract 0 30)] rfl rfl (cell_one_new _ _ _) ?c2 ?c3 ?c4 ?c5 ?_)
            case c2 => intro u hu; simp at hu; subst hu; rfl
            case c3 => rw [HN.out]; unfold maxLen; omega
            case c4 => rw [HN.out]; omega
            case c5 => simp; omega
            intro v' w1 hown' hgrow _
            have R := own_step hb hbs HO.out _ hown' hgrow
            rw [← HC.out, ← HL.out] at R
            obtain ⟨R1, R2⟩ := R
            have HR1 : Hid _ := R1
            clear hown' hgrow HO R1
            go_wp2_with fail
            go_roundw
            case rel => exact ⟨k + 1, by omega, by omega, by go_num, HR1, R2⟩
            case measure => simp [intOf]; omega
          · have HC : Hid (cut30 s = s) := if_neg h30
            go_wp2_with (at_builtin; refine wpList_append_own _ rfl _ _ 39 rfl w.heap.size 9 i0 (.string ByteArray.empty) 1 16 Try.underlying39 hi hz0 hz1 hz2 rfl (by decide) _ _ _ rfl (HO.out.alloc _) ⟨wr.heap.size, 0, none⟩ 1 1 [.string s] rfl rfl (cell_one_new _ _ _) ?c2 ?c3 ?c4 ?c5 ?_)
            case c2 => intro u hu; simp at hu; subst hu; rfl
            case c3 => rw [HN.out]; unfold maxLen; omega
            case c4 => rw [HN.out]; omega
            case c5 => simp; omega
            intro v' w1 hown' hgrow _
            have R := own_step hb hbs HO.out _ hown' hgrow
            rw [HC.out] at HL
            rw [← HL.out] at R
            obtain ⟨R1, R2⟩ := R
            have HR1 : Hid _ := R1
            clear hown' hgrow HO R1
            go_wp2_with fail
            go_roundw
            case rel => exact ⟨k + 1, by omega, by omega, by go_num, HR1, R2⟩
            case measure => simp [intOf]; omega
      · go_wp2_with fail
        go_ret
        exact ⟨_, rfl, by rw [show min m ss.length = k by omega]; exact HO.out, hb⟩
    · go_wp2_with fail
      go_ret
      exact ⟨_, rfl, by rw [show min m ss.length = k by omega]; exact HO.out, hb⟩

end Go.Proofs.Ytkhnjipjbhcgdab
