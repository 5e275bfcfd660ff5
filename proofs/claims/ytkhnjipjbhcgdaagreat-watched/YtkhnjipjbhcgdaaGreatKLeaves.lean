import Derived.Test.YtkhnjipjbhcgdaaGreatTree
/-
  THE WALKS of treeheadref.root, treeheadref.Leaves, treehead.mayBeRow; treehead.Root, treeheadref.Root.
-/
namespace Go.Proofs.YtkhnjipjbhcgdaaGreat
open Go.RowKit

theorem below_rsum (s : ByteArray) (l : List UInt8) (w : World) (hs : s.size ≤ maxLen) (hl : s.data.toList = l) :
    Calls Tryz.prog 24 #[.string s] w fun e w' => e = .returned (.string (Pl.sum l)) ∧ Below w.heap.size w w' :=
  (rsum_of s l w hs hl).mono fun _ _ ⟨he, n, hw⟩ => ⟨he, by rw [hw]; exact below_drewN (Below.refl _ _) n⟩

set_option maxRecDepth 100000 in
set_option maxHeartbeats 400000 in
theorem rroot_zero (p : Option Addr) (cap : Nat) (w : World) :
    Calls Tryz.prog 13 #[.slice p 0 cap] w fun e w' => e = .returned (.string (Pl.root [])) ∧ Below w.heap.size w w' := by
  go_enter Tryz.func13, Tryz.ntmps13
  go_wp2_with fail
  refine (below_rsum _ [69] _ (by decide) rfl).mono ?_
  rintro e w1 ⟨rfl, hb⟩
  go_wp2_with fail
  go_ret
  exact ⟨rfl, hb⟩

set_option maxRecDepth 100000 in
set_option maxHeartbeats 400000 in
theorem rroot_one (b o cap : Nat) (s : ByteArray) (w : World) (hc : w.cell? ⟨b, o, none⟩ = some (.string s)) (hs : s.size ≤ 30) :
    Calls Tryz.prog 13 #[.slice (some ⟨b, o, none⟩) 1 cap] w fun e w' => e = .returned (.string (Pl.root [s])) ∧ Below w.heap.size w w' := by
  have HZ : Hid ((⟨#[76]⟩ ++ s : ByteArray).size ≤ maxLen) := by
    show _ ≤ _
    rw [ByteArray.size_append]
    show 1 + s.size ≤ 9223372036854775807
    omega
  have HQ : Hid ((⟨#[76]⟩ ++ s : ByteArray).data.toList = Pl.cat [⟨#[76]⟩, s]) := by show _ = _; simp [ByteArray.data_append, Pl.cat]
  go_enter Tryz.func13, Tryz.ntmps13
  go_wp2_with fail
  refine (below_rsum _ _ _ HZ.out HQ.out).mono ?_
  rintro e w1 ⟨rfl, hb⟩
  go_wp2_with fail
  go_ret
  exact ⟨rfl, hb⟩

set_option maxRecDepth 100000 in
set_option maxHeartbeats 1000000 in
theorem rroot_many (b o cap : Nat) (ss : List ByteArray) (w : World) (h2 : 2 ≤ ss.length) (h40 : ss.length ≤ 40) (hcap : ss.length ≤ cap) (hcm : cap ≤ 9223372036854775807) (hr : Row w (some ⟨b, o, none⟩) ss)
    (ih : ∀ (p : Option Addr) (cap : Nat) (ss' : List ByteArray) (w : World), ss'.length < ss.length → ss'.length ≤ cap → cap ≤ 9223372036854775807 → Row w p ss' → (∀ s ∈ ss', s ∈ ss) →
      Calls Tryz.prog 13 #[.slice p ss'.length cap] w fun e w' => e = .returned (.string (Pl.root ss')) ∧ Below w.heap.size w w') :
    Calls Tryz.prog 13 #[.slice (some ⟨b, o, none⟩) ss.length cap] w fun e w' => e = .returned (.string (Pl.root ss)) ∧ Below w.heap.size w w' := by
  have hp := Pl.half_pos ss.length
  have hl := Pl.half_lt ss.length h2
  have e1 : (ss.take (Pl.half ss.length)).length = Pl.half ss.length := by rw [List.length_take]; omega
  have e2 : (ss.drop (Pl.half ss.length)).length = ss.length - Pl.half ss.length := by rw [List.length_drop]
  have HS : Hid _ := fun w => below_any ss.length w h2 (by omega)
  have HA : Hid (∀ w, Row w (some ⟨b, o, none⟩) ss → Calls Tryz.prog 13 #[.slice (some ⟨b, o, none⟩) (Pl.half ss.length) cap] w fun e w' => e = .returned (.string (Pl.root (ss.take (Pl.half ss.length)))) ∧ Below w.heap.size w w') := by
    intro w hr
    have := ih (some ⟨b, o, none⟩) cap (ss.take (Pl.half ss.length)) w (by rw [e1]; exact hl) (by rw [e1]; omega) hcm (hr.take _) (fun s hs => List.mem_of_mem_take hs)
    rwa [e1] at this
  have HB : Hid (∀ w, Row w (some ⟨b, o, none⟩) ss → Calls Tryz.prog 13 #[.slice (some ⟨b, o + Pl.half ss.length, none⟩) (ss.length - Pl.half ss.length) (cap - Pl.half ss.length)] w fun e w' => e = .returned (.string (Pl.root (ss.drop (Pl.half ss.length)))) ∧ Below w.heap.size w w') := by
    intro w hr
    have := ih (some ⟨b, o + Pl.half ss.length, none⟩) (cap - Pl.half ss.length) (ss.drop (Pl.half ss.length)) w (by omega) (by omega) (by omega) (hr.drop _) (fun s hs => List.mem_of_mem_drop hs)
    rwa [e2] at this
  have HE : Hid _ := Pl.root_more ss h2
  have HR : Hid _ := hr
  have hne1 : ((ss.length : Int) == 0) = false := beq_eq_false_iff_ne.2 (by omega)
  have hne2 : ((ss.length : Int) == 1) = false := beq_eq_false_iff_ne.2 (by omega)
  clear hr ih e1 e2
  generalize Pl.half ss.length = k at *
  have z1 := Pl.root_size (ss.take k)
  have z2 := Pl.root_size (ss.drop k)
  generalize Pl.root (ss.take k) = r1 at *
  generalize Pl.root (ss.drop k) = r2 at *
  have hz : (⟨#[78]⟩ ++ r1 ++ r2 : ByteArray).size ≤ maxLen := by
    rw [ByteArray.size_append, ByteArray.size_append, z1, z2]
    decide
  have hq : (⟨#[78]⟩ ++ r1 ++ r2 : ByteArray).data.toList = 78 :: (r1.data.toList ++ r2.data.toList) := by simp [ByteArray.data_append]
  have HZ : Hid _ := hz
  have HQ : Hid _ := hq
  have z1' : r1.size ≤ 4 := by omega
  have z2' : r2.size ≤ 4 := by omega
  clear hz hq z1 z2
  go_enter Tryz.func13, Tryz.ntmps13
  go_wp2_with fail
  refine (HS.out _).mono ?_
  rintro e w1 ⟨rfl, rfl⟩
  go_wp2_with fail
  refine (HA.out _ HR.out).mono ?_
  rintro e w2 ⟨rfl, hb2⟩
  go_wp2_with fail
  refine (HB.out _ (HR.out.grow hb2 (Nat.le_refl _))).mono ?_
  rintro e w3 ⟨rfl, hb3⟩
  go_wp2_with fail
  refine (below_rsum _ _ _ HZ.out HQ.out).mono ?_
  rintro e w4 ⟨rfl, hb4⟩
  go_wp2_with fail
  go_ret
  rw [HE.out]
  have k1 := hb2.trans (hb3.mono hb2.size)
  exact ⟨rfl, k1.trans (hb4.mono k1.size)⟩

theorem rroot_any : ∀ (n : Nat) (p : Option Addr) (cap : Nat) (ss : List ByteArray) (w : World), ss.length ≤ n → ss.length ≤ 40 → ss.length ≤ cap → cap ≤ 9223372036854775807 → Row w p ss → (∀ s ∈ ss, s.size ≤ 30) →
    Calls Tryz.prog 13 #[.slice p ss.length cap] w fun e w' => e = .returned (.string (Pl.root ss)) ∧ Below w.heap.size w w' := by
  intro n
  induction n with
  | zero =>
    intro p cap ss w h _ _ _ _ _
    obtain rfl : ss = [] := List.eq_nil_of_length_eq_zero (by omega)
    exact rroot_zero p cap w
  | succ n ih =>
    intro p cap ss w h h40 hc hm hr hs
    rcases hr.cell with rfl | ⟨b, o, rfl, hb, hcell⟩
    · exact rroot_zero p cap w
    · by_cases h1 : ss.length = 1
      · obtain ⟨s, rfl⟩ := List.length_eq_one_iff.1 h1
        exact rroot_one b o cap s w (hcell 0 (by omega)) (hs s (by simp))
      · by_cases h0 : ss.length = 0
        · obtain rfl : ss = [] := List.eq_nil_of_length_eq_zero h0
          exact rroot_zero _ cap w
        · exact rroot_many b o cap ss w (by omega) h40 hc hm hr (fun p cap ss' w hl hc hm hr hmem => ih p cap ss' w (by omega) (by omega) hc hm hr (fun s h => hs s (hmem s h)))

end Go.Proofs.YtkhnjipjbhcgdaaGreat

/-
  THE WALKS of treehead.mayBeRow, treeheadref.Leaves, treehead.Root, treeheadref.Root.
-/
namespace Go.Proofs.YtkhnjipjbhcgdaaGreat
open Go.RowKit

/-- May texts be leaves, and are they not too many? -/
def okB (ss : List ByteArray) : Bool := decide (ss.length ≤ 40) && ss.all fun s => decide (s.size ≤ 30)
theorem okB_yes {ss : List ByteArray} (h : okB ss = true) : ss.length ≤ 40 ∧ ∀ s ∈ ss, s.size ≤ 30 := by
  simp only [okB, Bool.and_eq_true, decide_eq_true_eq, List.all_eq_true] at h
  exact h
theorem okB_mk {ss : List ByteArray} (h : ss.length ≤ 40) (h2 : ∀ s ∈ ss, s.size ≤ 30) : okB ss = true := by
  simp only [okB, Bool.and_eq_true, decide_eq_true_eq, List.all_eq_true]
  exact ⟨h, h2⟩
theorem okB_many {ss : List ByteArray} (h : ¬ ss.length ≤ 40) : okB ss = false := by
  simp [okB, h]
theorem okB_long {ss : List ByteArray} (k : Nat) (hk : k < ss.length) (h : ¬ ss[k].size ≤ 30) : okB ss = false := by
  cases hb : okB ss with
  | false => rfl
  | true => exact absurd ((okB_yes hb).2 ss[k] (List.getElem_mem _)) h
theorem all_step {ss : List ByteArray} {k : Nat} (hk : k < ss.length) (h : ∀ s ∈ ss.take k, s.size ≤ 30) (h2 : ss[k].size ≤ 30) : ∀ s ∈ ss.take (k + 1), s.size ≤ 30 := by
  intro s hs
  rw [List.take_succ_eq_append_getElem hk, List.mem_append, List.mem_singleton] at hs
  rcases hs with h1 | rfl
  · exact h s h1
  · exact h2

set_option maxRecDepth 100000 in
set_option maxHeartbeats 400000 in
theorem leaf_any (s : ByteArray) (w : World) : Calls Tryz.prog 58 #[.string s] w fun e w' => e = .returned (.bool (decide ((s.size : Int) ≤ 30))) ∧ w' = w := by
  go_enter Tryz.func58, Tryz.ntmps58
  go_wp2
  go_ret
  exact ⟨rfl, rfl⟩

theorem ret_bool {a b : Bool} (h : a = b) : Ending.returned (.bool a) = .returned (.bool b) := by rw [h]

set_option maxRecDepth 100000 in
set_option maxHeartbeats 1000000 in
theorem may_any (p : Option Addr) (cap : Nat) (ss : List ByteArray) (w : World) (hr : Row w p ss) :
    Calls Tryz.prog 46 #[.slice p ss.length cap] w fun e w' => e = .returned (.bool (okB ss)) ∧ w' = w := by
  have hlen : ss.length ≤ 9223372036854775807 := hr.len
  by_cases h40 : ss.length ≤ 40
  · have HR : Hid _ := hr
    clear hr
    go_enter Tryz.func46, Tryz.ntmps46
    go_wp2_with fail
    go_loop [10] (fun i => ∃ k : Nat, k ≤ ss.length ∧ i = .int .i64 k ∧ Hid (∀ s ∈ ss.take k, s.size ≤ 30)) (fun i => ss.length - (intOf i).toNat)
    case atStart => exact ⟨0, by omega, rfl, fun s hs => by simp at hs⟩
    case round =>
      obtain ⟨k, hk, rfl, HA⟩ := hrel
      by_cases hlt : k < ss.length
      · rcases HR.out.cell with h0 | ⟨b, o, h1, _, hcell⟩
        · rw [h0] at hlt; exact absurd hlt (by simp)
        · have hck := hcell k hlt
          subst h1
          clear hcell
          have hleaf := leaf_any ss[k]
          by_cases hs : ss[k].size ≤ 30
          · have HT : Hid _ := all_step hlt HA.out hs
            rw [show decide ((ss[k].size : Int) ≤ 30) = true from decide_eq_true (by omega)] at hleaf
            generalize ss[k] = s at *
            go_wp2_with fail
            refine (hleaf _).mono ?_
            rintro e w1 ⟨rfl, rfl⟩
            go_wp2_with fail
            go_round
            case rel => exact ⟨k + 1, by omega, by go_num, HT⟩
            case measure => simp [intOf]; omega
          · have HF : Hid _ := okB_long k hlt hs
            rw [show decide ((ss[k].size : Int) ≤ 30) = false from decide_eq_false (by omega)] at hleaf
            generalize ss[k] = s at *
            go_wp2_with fail
            refine (hleaf _).mono ?_
            rintro e w1 ⟨rfl, rfl⟩
            go_wp2_with fail
            go_ret
            exact ⟨ret_bool HF.out.symm, rfl⟩
      · have HT : Hid _ := okB_mk h40 (by have h := HA.out; rwa [List.take_of_length_le (by omega)] at h)
        go_wp2_with fail
        go_ret
        exact ⟨ret_bool HT.out.symm, rfl⟩
  · have HF : Hid _ := okB_many h40
    clear hr
    go_enter Tryz.func46, Tryz.ntmps46
    go_wp2_with fail
    go_ret
    exact ⟨ret_bool HF.out.symm, rfl⟩

set_option maxRecDepth 100000 in
set_option maxHeartbeats 1000000 in
theorem rleaves_any (p : Option Addr) (cap : Nat) (ss : List ByteArray) (w : World) (hr : Row w p ss) :
    Calls Tryz.prog 12 #[.slice p ss.length cap] w fun e w' => e = .returned (.bool (okB ss)) ∧ w' = w := by
  have hlen : ss.length ≤ 9223372036854775807 := hr.len
  by_cases h40 : ss.length ≤ 40
  · have HR : Hid _ := hr
    clear hr
    go_enter Tryz.func12, Tryz.ntmps12
    go_wp2_with fail
    go_loop [3] (fun i => ∃ k : Nat, k ≤ ss.length ∧ i = .int .i64 k ∧ Hid (∀ s ∈ ss.take k, s.size ≤ 30)) (fun i => ss.length - (intOf i).toNat)
    case atStart => exact ⟨0, by omega, rfl, fun s hs => by simp at hs⟩
    case round =>
      obtain ⟨k, hk, rfl, HA⟩ := hrel
      by_cases hlt : k < ss.length
      · rcases HR.out.cell with h0 | ⟨b, o, h1, _, hcell⟩
        · rw [h0] at hlt; exact absurd hlt (by simp)
        · have hck := hcell k hlt
          subst h1
          clear hcell
          by_cases hs : ss[k].size ≤ 30
          · have HT : Hid _ := all_step hlt HA.out hs
            generalize ss[k] = s at *
            go_wp2_with fail
            go_round
            case rel => exact ⟨k + 1, by omega, by go_num, HT⟩
            case measure => simp [intOf]; omega
          · have HF : Hid _ := okB_long k hlt hs
            generalize ss[k] = s at *
            go_wp2_with fail
            go_ret
            exact ⟨ret_bool HF.out.symm, rfl⟩
      · have HT : Hid _ := okB_mk h40 (by have h := HA.out; rwa [List.take_of_length_le (by omega)] at h)
        go_wp2_with fail
        go_ret
        exact ⟨ret_bool HT.out.symm, rfl⟩
  · have HF : Hid _ := okB_many h40
    clear hr
    go_enter Tryz.func12, Tryz.ntmps12
    go_wp2_with fail
    go_ret
    exact ⟨ret_bool HF.out.symm, rfl⟩

/-- What Root answers. -/
def rootAns (ss : List ByteArray) : Value := if okB ss = true then .tuple #[.string (Pl.root ss), .int .i64 0] else .tuple #[.string ⟨#[]⟩, .int .i64 1]
theorem rootAns_yes {ss : List ByteArray} (h : okB ss = true) : rootAns ss = .tuple #[.string (Pl.root ss), .int .i64 0] := by simp [rootAns, h]
theorem rootAns_no {ss : List ByteArray} (h : okB ss = false) : rootAns ss = .tuple #[.string ⟨#[]⟩, .int .i64 1] := by simp [rootAns, h]

set_option maxRecDepth 100000 in
set_option maxHeartbeats 1000000 in
theorem rtroot_any (p : Option Addr) (cap : Nat) (ss : List ByteArray) (w : World) (hc : ss.length ≤ cap) (hm : cap ≤ 9223372036854775807) (hr : Row w p ss) :
    Calls Tryz.prog 5 #[.slice p ss.length cap] w fun e w' => e = .returned (rootAns ss) ∧ Below w.heap.size w w' := by
  have hmay := rleaves_any p cap ss w hr
  cases hok : okB ss with
  | true =>
    rw [rootAns_yes hok]
    rw [hok] at hmay
    go_enter Tryz.func5, Tryz.ntmps5
    go_wp2_with fail
    refine hmay.mono ?_
    rintro e w1 ⟨rfl, rfl⟩
    go_wp2_with fail
    refine (rroot_any ss.length p cap ss _ (Nat.le_refl _) (okB_yes hok).1 hc hm hr (okB_yes hok).2).mono ?_
    rintro e w2 ⟨rfl, hb⟩
    go_wp2_with fail
    go_ret2
    exact ⟨rfl, hb⟩
  | false =>
    rw [rootAns_no hok]
    rw [hok] at hmay
    go_enter Tryz.func5, Tryz.ntmps5
    go_wp2_with fail
    refine hmay.mono ?_
    rintro e w1 ⟨rfl, rfl⟩
    go_wp2_with fail
    go_ret2
    exact ⟨rfl, Below.refl _ _⟩

end Go.Proofs.YtkhnjipjbhcgdaaGreat

/-
  THE WALK of treeheadkeep.leaves: a row of the law's own.
-/
namespace Go.Proofs.YtkhnjipjbhcgdaaGreat
open Go.RowKit

theorem infoStr : (Tryz.prog.info? 9).map (fun i => (i.zero, i.size, i.bytes)) = some (some (.string ByteArray.empty), 1, 16) := by kernel_rfl

def firstB : ByteArray := ⟨#[102, 105, 114, 115, 116]⟩
/-- A text cut to thirty bytes. -/
def cut30 (s : ByteArray) : ByteArray := if 30 < s.size then s.extract 0 30 else s
theorem cut30_size (s : ByteArray) : (cut30 s).size ≤ 30 := by
  unfold cut30
  split
  · rw [ByteArray.size_extract]; omega
  · omega
/-- A first text, and so many of the others. -/
def lv (ss : List ByteArray) (k : Nat) : List ByteArray := firstB :: (ss.take k).map cut30
theorem lv_length (ss : List ByteArray) (k : Nat) (h : k ≤ ss.length) : (lv ss k).length = k + 1 := by simp [lv]; omega
theorem lv_snoc (ss : List ByteArray) (k : Nat) (h : k < ss.length) : lv ss (k + 1) = lv ss k ++ [cut30 ss[k]] := by
  unfold lv
  rw [List.take_succ_eq_append_getElem h, List.map_append]
  rfl
theorem lv_sizes (ss : List ByteArray) (k : Nat) : ∀ s ∈ lv ss k, s.size ≤ 30 := by
  intro s hs
  simp only [lv, List.mem_cons, List.mem_map] at hs
  rcases hs with rfl | ⟨x, _, rfl⟩
  · decide
  · exact cut30_size x

/-- A row of the call's own: the texts ss behind the value v. -/
def Own (w : World) (B : Nat) (v : Value) (ss : List ByteArray) : Prop := w.ownsRow B 9 1 v ss.length (ss.map Value.string)
theorem Own.open {w : World} {B : Nat} {v : Value} {ss : List ByteArray} (h : Own w B v ss) (hne : ss ≠ []) (hs : ∀ s ∈ ss, s.size ≤ maxLen) (hl : ss.length ≤ maxLen) :
    ∃ g cap, v = .slice (some ⟨g, 0, none⟩) ss.length cap ∧ B ≤ g ∧ ss.length ≤ cap ∧ cap ≤ maxLen ∧ Row w (some ⟨g, 0, none⟩) ss := by
  have hlt := World.ownsRow.lt h
  rcases h.2 with ⟨_, h0⟩ | ⟨g, cap, cur, rfl, hb, hg, hc, hm, hz, ht⟩
  · exact absurd (List.eq_nil_of_length_eq_zero h0) hne
  · refine ⟨g, cap, rfl, hb, hc, hm, hl, hs, Or.inr ⟨g, 0, rfl, (hlt g rfl).2, fun i hi => ?_⟩⟩
    have := World.ownsRow.cells h (g := g) rfl i (.string ss[i]) (by simp [hi])
    rwa [add_plain] at this

theorem own_step {w wr w' : World} {B : Nat} {v v' : Value} {ss : List ByteArray} {s : ByteArray} (hb : Below B w wr) (hB : B ≤ wr.heap.size) (h : Own wr B v ss)
    (o : Obj) (h2 : w'.ownsRow B 9 1 v' (ss.length + 1) (ss.map Value.string ++ [.string s])) (hg : (wr.alloc o).grownBy w' v.ownBlock) : Own w' B v' (ss ++ [s]) ∧ Below B w w' := by
  refine ⟨?_, ?_⟩
  · unfold Own
    rw [List.length_append, List.map_append]
    exact h2
  · exact (hb.alloc hB o).grown hg (by simp; omega) (fun k hk => (World.ownsRow.lt h k hk).1)

end Go.Proofs.YtkhnjipjbhcgdaaGreat
