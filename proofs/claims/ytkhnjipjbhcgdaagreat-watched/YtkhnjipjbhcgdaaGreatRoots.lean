import Derived.Test.YtkhnjipjbhcgdaaGreatTWatch2
import Derived.Test.YtkhnjipjbhcgdaaGreatKLeaves
/-
  THE WALK of the program's watcher: Update.
-/
namespace Go.Proofs.YtkhnjipjbhcgdaaGreat
open Go.RowKit Hp

theorem openRoot_max (key : Int) (b : ByteArray) : (openRoot key b).size ≤ maxLen := by
  unfold openRoot
  split
  · unfold Pl.hRoot
    rw [ByteArray.size_extract]
    unfold maxLen
    omega
  · exact Nat.zero_le _

set_option maxRecDepth 100000 in
set_option maxHeartbeats 1000000 in
theorem tupdate_closed (F C : Nat) (sp : Option Addr) (key : Int) (size : Nat) (root : ByteArray) (seen : Bool) (b : ByteArray) (pv : Value) (w : World) (h : Wt w F C sp key size root seen true) :
    Calls Tryz.prog 33 #[.pointer (some ⟨F, 0, none⟩), .string b, pv] w fun e w' => e = .returned (.int .i64 10) ∧ w' = w := by
  have HI : Hid _ := tisclosed_any F C sp key size root seen true _ h
  go_enter Tryz.func33, Tryz.ntmps33
  go_wp2_with fail
  refine Calls.mono HI.out ?_
  rintro e w0 ⟨rfl, rfl⟩
  go_wp2_with fail
  go_ret
  exact ⟨rfl, rfl⟩

set_option maxRecDepth 100000 in
set_option maxHeartbeats 2000000 in
theorem tupdate_open (F C : Nat) (sp : Option Addr) (key : Int) (size : Nat) (root : ByteArray) (seen : Bool) (b : ByteArray) (pv : Value) (w : World) (h : Wt w F C sp key size root seen false) (he : ¬ openE key b = 0) :
    Calls Tryz.prog 33 #[.pointer (some ⟨F, 0, none⟩), .string b, pv] w fun e w' => e = .returned (.int .i64 (openE key b)) ∧ Below w.heap.size w w' := by
  have HI : Hid _ := tisclosed_any F C sp key size root seen false _ h
  have HO : Hid _ := fun w => topen_any key b w
  have q0 := h.box.cell 0
  generalize openE key b = E at *
  go_enter Tryz.func33, Tryz.ntmps33
  go_wp2_with fail
  refine Calls.mono HI.out ?_
  rintro e w0 ⟨rfl, rfl⟩
  go_wp2_with fail
  refine (HO.out _).mono ?_
  rintro e w1 ⟨rfl, hb1⟩
  have hbn : Below w1.heap.size w1 (w1.alloc (.cells #[.int .i64 (openSize key b : Nat), .string (openRoot key b)] 59)) := (Below.refl _ _).alloc (Nat.le_refl _) _
  have hb2 := hb1.trans (hbn.mono hb1.size)
  have hW := h.grow hb2
  have hn := Box.new w1 59 [.int .i64 (openSize key b : Nat), .string (openRoot key b)]
  go_wp2_with fail
  go_ret
  exact ⟨rfl, hb2⟩

set_option maxRecDepth 100000 in
set_option maxHeartbeats 4000000 in
theorem tupdate_old (F C S : Nat) (key : Int) (size : Nat) (root : ByteArray) (b : ByteArray) (pv : Value) (w : World) (h : Wt w F C (some ⟨S, 0, none⟩) key size root true false) (he : openE key b = 0) (ho : openSize key b < size) :
    Calls Tryz.prog 33 #[.pointer (some ⟨F, 0, none⟩), .string b, pv] w fun e w' => e = .returned (.int .i64 5) ∧ Below w.heap.size w w' := by
  have HI : Hid _ := tisclosed_any F C (some ⟨S, 0, none⟩) key size root true false _ h
  have HO : Hid _ := fun w => topen_any key b w
  have q0 := h.box.cell 0
  rw [he] at HO
  clear he
  have hoi : (openSize key b : Int) < (size : Int) := by omega
  go_enter Tryz.func33, Tryz.ntmps33
  go_wp2_with fail
  refine Calls.mono HI.out ?_
  rintro e w0 ⟨rfl, rfl⟩
  go_wp2_with fail
  refine (HO.out _).mono ?_
  rintro e w1 ⟨rfl, hb1⟩
  have hbn : Below w1.heap.size w1 (w1.alloc (.cells #[.int .i64 (openSize key b : Nat), .string (openRoot key b)] 59)) := (Below.refl _ _).alloc (Nat.le_refl _) _
  have hb2 := hb1.trans (hbn.mono hb1.size)
  have hW := h.grow hb2
  have hn := Box.new w1 59 [.int .i64 (openSize key b : Nat), .string (openRoot key b)]
  have hS : Box (w1.alloc (.cells #[.int .i64 (openSize key b : Nat), .string (openRoot key b)] 59)) S 59 [.int .i64 size, .string root] := by
    rcases hW.head with ⟨h0, _⟩ | ⟨_, S', hs, hS⟩
    · cases h0
    · simp only [Option.some.injEq, Addr.mk.injEq, and_true] at hs
      rw [hs]
      exact hS
  have hx := hW.box
  have x1 := hx.cell 1
  have s0 := hS.cell 0
  have n0 := hn.cell 0
  generalize openSize key b = OS at *
  generalize openRoot key b = OR at *
  go_upto_region 6 with fail
  clear h hW hn hS hx q0 HI HO
  generalize w1.alloc (.cells #[.int .i64 (OS : Nat), .string OR] 59) = W at *
  go_quiet (fail)
  go_wp2_with fail
  go_ret
  exact ⟨rfl, below_drewN hb2 _⟩

set_option maxRecDepth 100000 in
set_option maxHeartbeats 4000000 in
theorem tupdate_no (F C : Nat) (sp : Option Addr) (key : Int) (size : Nat) (root : ByteArray) (seen : Bool) (b : ByteArray) (p : Option Addr) (cap : Nat) (path : List ByteArray) (w : World) (h : Wt w F C sp key size root seen false) (hrs : root.size ≤ maxLen) (hr : Row w p path) (hpc : path.length ≤ cap) (he : openE key b = 0) (ho : ¬ (seen = true ∧ openSize key b < size)) (hg : goesB size root seen (openSize key b) (openRoot key b) path = false) :
    Calls Tryz.prog 33 #[.pointer (some ⟨F, 0, none⟩), .string b, .slice p path.length cap] w fun e w' => e = .returned (.int .i64 6) ∧ Below w.heap.size w w' := by
  have HI : Hid _ := tisclosed_any F C sp key size root seen false _ h
  have HO : Hid _ := fun w => topen_any key b w
  have q0 := h.box.cell 0
  rw [he] at HO
  clear he
  have HF : Hid (∀ w', Wt w' F C sp key size root seen false → Row w' p path → Calls Tryz.prog 53 #[.pointer (some ⟨F, 0, none⟩), .agg #[.int .i64 (openSize key b : Nat), .string (openRoot key b)], .slice p path.length cap] w' fun e w'' => e = .returned (.bool false) ∧ Below w'.heap.size w' w'') := fun w' hw hr => by
    have := tfollows_any F C sp key size root seen false (openSize key b) (openRoot key b) p cap path w' hw hrs (openRoot_max key b) hr hpc
    rwa [hg] at this
  have HR : Hid _ := hr
  clear hg hr
  go_enter Tryz.func33, Tryz.ntmps33
  go_wp2_with fail
  refine Calls.mono HI.out ?_
  rintro e w0 ⟨rfl, rfl⟩
  go_wp2_with fail
  refine (HO.out _).mono ?_
  rintro e w1 ⟨rfl, hb1⟩
  have hbn : Below w1.heap.size w1 (w1.alloc (.cells #[.int .i64 (openSize key b : Nat), .string (openRoot key b)] 59)) := (Below.refl _ _).alloc (Nat.le_refl _) _
  have hb2 := hb1.trans (hbn.mono hb1.size)
  have hW := h.grow hb2
  have hn := Box.new w1 59 [.int .i64 (openSize key b : Nat), .string (openRoot key b)]
  have HWt : Hid (Wt (w1.alloc (.cells #[.int .i64 (openSize key b : Nat), .string (openRoot key b)] 59)) F C sp key size root seen false) := hW
  have HR2 : Hid _ := HR.out.grow hb2 (Nat.le_refl _)
  have hx := hW.box
  have x1 := hx.cell 1
  have n0 := hn.cell 0
  have n1 := hn.cell 1
  have xl := hx.lt
  have hd := hW.head
  have hF1 := h.box.lt
  have hsz := hb1.size
  generalize openSize key b = OS at *
  generalize openRoot key b = OR at *
  go_upto_region 6 with fail
  clear h hW q0 HI HO HR
  generalize w1.alloc (.cells #[.int .i64 (OS : Nat), .string OR] 59) = W at *
  rcases hd with ⟨rfl, rfl⟩ | ⟨rfl, S, rfl, hS⟩
  · clear ho
    go_quiet (fail)
    have hbq : Below W.heap.size W (W.drewN nq) := below_drewN (Below.refl _ _) nq
    have hkq := hb2.trans (hbq.mono hb2.size)
    have hxq := hx.grow hbq hx.lt
    have hnq := hn.grow hbq hn.lt
    have HWq : Hid _ := Wt.grow HWt.out hbq
    have HRq : Hid _ := HR2.out.grow hbq (Nat.le_refl _)
    clear x1 n0 n1 hbq hx hn HWt HR2 xl
    generalize W.drewN nq = W2 at *
    have n0 := hnq.cell 0
    have n1 := hnq.cell 1
    go_wp2_with fail
    refine (HF.out _ HWq.out HRq.out).mono ?_
    rintro e w6 ⟨rfl, hb6⟩
    have hk6 := hkq.trans (hb6.mono hkq.size)
    go_wp2_with fail
    go_ret
    exact ⟨rfl, hk6⟩
  · have s0 := hS.cell 0
    have hoi : ¬ (OS : Int) < (size : Int) := by
      intro h0
      exact ho ⟨rfl, by omega⟩
    clear ho
    go_quiet (fail)
    have hbq : Below W.heap.size W (W.drewN nq) := below_drewN (Below.refl _ _) nq
    have hkq := hb2.trans (hbq.mono hb2.size)
    have hxq := hx.grow hbq hx.lt
    have hnq := hn.grow hbq hn.lt
    have HWq : Hid _ := Wt.grow HWt.out hbq
    have HRq : Hid _ := HR2.out.grow hbq (Nat.le_refl _)
    clear x1 n0 n1 hbq hx hn HWt HR2 xl
    generalize W.drewN nq = W2 at *
    have n0 := hnq.cell 0
    have n1 := hnq.cell 1
    go_wp2_with fail
    refine (HF.out _ HWq.out HRq.out).mono ?_
    rintro e w6 ⟨rfl, hb6⟩
    have hk6 := hkq.trans (hb6.mono hkq.size)
    go_wp2_with fail
    go_ret
    exact ⟨rfl, hk6⟩

set_option maxRecDepth 100000 in
set_option maxHeartbeats 4000000 in
theorem tupdate_yes (F C : Nat) (sp : Option Addr) (key : Int) (size : Nat) (root : ByteArray) (seen : Bool) (b : ByteArray) (p : Option Addr) (cap : Nat) (path : List ByteArray) (w : World) (h : Wt w F C sp key size root seen false) (hrs : root.size ≤ maxLen) (hr : Row w p path) (hpc : path.length ≤ cap) (he : openE key b = 0) (OS : Nat) (OR : ByteArray) (hOS : openSize key b = OS) (hOR : openRoot key b = OR) (ho : ¬ (seen = true ∧ OS < size)) (hg : goesB size root seen (OS) (OR) path = true) :
    Calls Tryz.prog 33 #[.pointer (some ⟨F, 0, none⟩), .string b, .slice p path.length cap] w fun e w' => e = .returned (.int .i64 0) ∧ ∃ N, w.heap.size ≤ N ∧ Wt w' F C (some ⟨N, 0, none⟩) key (OS) (OR) true false ∧ Turn (fun k => k = F) w w' := by
  have HI : Hid _ := tisclosed_any F C sp key size root seen false _ h
  have HO : Hid _ := fun w => topen_any key b w
  have q0 := h.box.cell 0
  rw [he, hOS, hOR] at HO
  have hORz : OR.size ≤ maxLen := by rw [← hOR]; exact openRoot_max key b
  clear he hOS hOR
  have HF : Hid (∀ w', Wt w' F C sp key size root seen false → Row w' p path → Calls Tryz.prog 53 #[.pointer (some ⟨F, 0, none⟩), .agg #[.int .i64 (OS : Nat), .string (OR)], .slice p path.length cap] w' fun e w'' => e = .returned (.bool true) ∧ Below w'.heap.size w' w'') := fun w' hw hr => by
    have := tfollows_any F C sp key size root seen false (OS) (OR) p cap path w' hw hrs hORz hr hpc
    rwa [hg] at this
  have HR : Hid _ := hr
  clear hg hr
  go_enter Tryz.func33, Tryz.ntmps33
  go_wp2_with fail
  refine Calls.mono HI.out ?_
  rintro e w0 ⟨rfl, rfl⟩
  go_wp2_with fail
  refine (HO.out _).mono ?_
  rintro e w1 ⟨rfl, hb1⟩
  have hbn : Below w1.heap.size w1 (w1.alloc (.cells #[.int .i64 (OS : Nat), .string (OR)] 59)) := (Below.refl _ _).alloc (Nat.le_refl _) _
  have hb2 := hb1.trans (hbn.mono hb1.size)
  have hW := h.grow hb2
  have hn := Box.new w1 59 [.int .i64 (OS : Nat), .string (OR)]
  have HWt : Hid (Wt (w1.alloc (.cells #[.int .i64 (OS : Nat), .string (OR)] 59)) F C sp key size root seen false) := hW
  have HR2 : Hid _ := HR.out.grow hb2 (Nat.le_refl _)
  have hx := hW.box
  have x1 := hx.cell 1
  have n0 := hn.cell 0
  have n1 := hn.cell 1
  have xl := hx.lt
  have hd := hW.head
  have hF1 := h.box.lt
  have hsz := hb1.size
  go_upto_region 6 with fail
  clear h hW q0 HI HO HR
  generalize w1.alloc (.cells #[.int .i64 (OS : Nat), .string OR] 59) = W at *
  rcases hd with ⟨rfl, rfl⟩ | ⟨rfl, S, rfl, hS⟩
  · clear ho
    go_quiet (fail)
    have hbq : Below W.heap.size W (W.drewN nq) := below_drewN (Below.refl _ _) nq
    have hkq := hb2.trans (hbq.mono hb2.size)
    have hxq := hx.grow hbq hx.lt
    have hnq := hn.grow hbq hn.lt
    have HWq : Hid _ := Wt.grow HWt.out hbq
    have HRq : Hid _ := HR2.out.grow hbq (Nat.le_refl _)
    clear x1 n0 n1 hbq hx hn HWt HR2 xl
    generalize W.drewN nq = W2 at *
    have n0 := hnq.cell 0
    have n1 := hnq.cell 1
    go_wp2_with fail
    refine (HF.out _ HWq.out HRq.out).mono ?_
    rintro e w6 ⟨rfl, hb6⟩
    have hk6 := hkq.trans (hb6.mono hkq.size)
    have hx6 := hxq.grow hb6 hxq.lt
    have hn6 := hnq.grow hb6 hnq.lt
    have hc6 : Chan0 w6 C false := HWq.out.chan.grow hb6 HWq.out.chan.lt
    have x1 := hx6.cell 1
    have f1 := hx6.frozen 1
    have xl := hx6.lt
    go_wp2_with fail
    go_ret
    have hT : Turn (fun k => k = F) w6 (w6.setCell ⟨F, 1, none⟩ (.pointer (some ⟨w1.heap.size, 0, none⟩))) := (Turn.refl (fun k => k = F) w6).setCell (fun _ => rfl) _
    refine ⟨rfl, w1.heap.size, hsz, ⟨hx6.set 1 _, hc6.turn hT ?_, Or.inr ⟨rfl, _, rfl, hn6.turn hT ?_⟩⟩, (Turn.of (X := fun k => k = F) hk6).trans hT (fun _ _ h => h)⟩
    · intro hCF
      have h1 := hc6
      unfold Chan0 at h1
      have h2 := hx6
      unfold Box at h2
      rw [← hCF, h1] at h2
      simp at h2
    · omega
  · have s0 := hS.cell 0
    have hoi : ¬ (OS : Int) < (size : Int) := by
      intro h0
      exact ho ⟨rfl, by omega⟩
    clear ho
    go_quiet (fail)
    have hbq : Below W.heap.size W (W.drewN nq) := below_drewN (Below.refl _ _) nq
    have hkq := hb2.trans (hbq.mono hb2.size)
    have hxq := hx.grow hbq hx.lt
    have hnq := hn.grow hbq hn.lt
    have HWq : Hid _ := Wt.grow HWt.out hbq
    have HRq : Hid _ := HR2.out.grow hbq (Nat.le_refl _)
    clear x1 n0 n1 hbq hx hn HWt HR2 xl
    generalize W.drewN nq = W2 at *
    have n0 := hnq.cell 0
    have n1 := hnq.cell 1
    go_wp2_with fail
    refine (HF.out _ HWq.out HRq.out).mono ?_
    rintro e w6 ⟨rfl, hb6⟩
    have hk6 := hkq.trans (hb6.mono hkq.size)
    have hx6 := hxq.grow hb6 hxq.lt
    have hn6 := hnq.grow hb6 hnq.lt
    have hc6 : Chan0 w6 C false := HWq.out.chan.grow hb6 HWq.out.chan.lt
    have x1 := hx6.cell 1
    have f1 := hx6.frozen 1
    have xl := hx6.lt
    go_wp2_with fail
    go_ret
    have hT : Turn (fun k => k = F) w6 (w6.setCell ⟨F, 1, none⟩ (.pointer (some ⟨w1.heap.size, 0, none⟩))) := (Turn.refl (fun k => k = F) w6).setCell (fun _ => rfl) _
    refine ⟨rfl, w1.heap.size, hsz, ⟨hx6.set 1 _, hc6.turn hT ?_, Or.inr ⟨rfl, _, rfl, hn6.turn hT ?_⟩⟩, (Turn.of (X := fun k => k = F) hk6).trans hT (fun _ _ h => h)⟩
    · intro hCF
      have h1 := hc6
      unfold Chan0 at h1
      have h2 := hx6
      unfold Box at h2
      rw [← hCF, h1] at h2
      simp at h2
    · omega

end Go.Proofs.YtkhnjipjbhcgdaaGreat

/-
  THE WALKS of treeheadlaw.three, treeheadlaw.rooted, treeheadlaw.Roots.
-/
namespace Go.Proofs.YtkhnjipjbhcgdaaGreat
open Go.RowKit

def abc : List ByteArray := [⟨#[97]⟩, ⟨#[98]⟩, ⟨#[99]⟩]
theorem abc_ok : okB abc = true := by decide
theorem abc_sizes : ∀ s ∈ abc, s.size ≤ maxLen := lit3 (by decide) (by decide) (by decide)

set_option maxRecDepth 100000 in
set_option maxHeartbeats 400000 in
theorem three_any (w : World) : Calls Tryz.prog 6 #[] w fun e w' => e = .returned (.slice (some ⟨w.heap.size, 0, none⟩) abc.length 3) ∧ w' = w.alloc (.cells (abc.map Value.string).toArray 9) := by
  go_enter Tryz.func6, Tryz.ntmps6
  go_wp2
  go_ret
  exact ⟨rfl, rfl⟩

theorem IsRow.grow {w w' : World} {v : Value} {ss : List ByteArray} {B : Nat} (h : IsRow w v ss) (hb : Below B w w') (hB : w.heap.size ≤ B) : IsRow w' v ss := by
  rcases h with h | ⟨a, cap, rfl, hc, hm, hr⟩
  · exact Or.inl h
  · exact Or.inr ⟨a, cap, rfl, hc, hm, hr.grow hb hB⟩
end Go.Proofs.YtkhnjipjbhcgdaaGreat
