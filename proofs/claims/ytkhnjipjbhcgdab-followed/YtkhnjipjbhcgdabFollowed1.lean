import Derived.Test.YtkhnjipjbhcgdabShown
import Derived.ChangeSlices
import Derived.Test.YtkhnjipjbhcgdabTWatch3
import Derived.Test.YtkhnjipjbhcgdabMade
/-
  HOW A []int THAT CAME IN IS OPENED.
-/
namespace Go.Proofs.Ytkhnjipjbhcgdab
open Go.ChangeShapes Go.WideShapes Go.ChangeAt Go.RowKit

/-- Whole numbers behind a slice's address. -/
structure NRow (w : World) (p : Option Addr) (ns : List Int) : Prop where
  len : ns.length ≤ maxLen
  fits : ∀ n ∈ ns, Fits n
  cell : ns = [] ∨ ∃ b o, p = some ⟨b, o, none⟩ ∧ b < w.heap.size ∧ ∀ i (h : i < ns.length), w.cell? ⟨b, o + i, none⟩ = some (.int .i64 ns[i])
def IsNums (w : World) (v : Value) (ns : List Int) : Prop := ∃ p cap, v = .slice p ns.length cap ∧ NRow w p ns
theorem NRow.grow {w w' : World} {p : Option Addr} {ns : List Int} (hr : NRow w p ns) (h : Below w.heap.size w w') : NRow w' p ns := by
  refine ⟨hr.len, hr.fits, ?_⟩
  rcases hr.cell with h0 | ⟨b, o, rfl, hb, hc⟩
  · exact Or.inl h0
  · exact Or.inr ⟨b, o, rfl, Nat.lt_of_lt_of_le hb h.size, fun i hi => by rw [h.cell (p := ⟨b, o + i, none⟩) hb]; exact hc i hi⟩
theorem cellsInt : Try.prog.cellsOf 3 = 1 := by kernel_rfl

set_option maxRecDepth 100000 in
theorem open_nums {H : Type} {enc : TypeId × Value → H} {W : World} {base : Nat} {v : Value} {d : DataW H} {ps : List MemPlace}
    (hv : Value.okWide Try.prog W .any base 40 v) (h : DataW.Trod enc Try.prog W 0 (fun _ => true) true 40 v d ps) : ∃ ns, IsNums W v ns := by
  obtain ⟨a0, len, cap, rfl⟩ := okWide_slice Try.underlying40 hv
  obtain ⟨fuel, hf⟩ := h
  rcases open_ints Try.underlying40 Try.underlying3 cellsInt hf with ⟨hcs, hx⟩ | ⟨a, len', cap', zs, hcs, _, hl, hm, hz, hx, hcell, hwz⟩
  · simp [Value.cells] at hcs
    obtain ⟨rfl, rfl, rfl⟩ := hcs
    exact ⟨[], none, 0, rfl, by simp, by simp, Or.inl rfl⟩
  · simp [Value.cells] at hcs
    obtain ⟨rfl, rfl, rfl⟩ := hcs
    simp only [if_true] at hz
    have e1 : (zs.take len).length = len := by rw [List.length_take]; omega
    refine ⟨zs.take len, some a, cap, by rw [e1], by rw [e1]; omega, fun n hn => fits_of (hwz n (List.mem_of_mem_take hn)), ?_⟩
    by_cases h0 : len = 0
    · left; rw [h0, List.take_zero]
    right
    obtain ⟨b, off, spot⟩ := a
    have hspot : spot = none := by simpa [Addr.add] using World.cell?_spot (hcell 0 (by omega))
    subst hspot
    have hc : ∀ i, i < zs.length → W.cell? ⟨b, off + i, none⟩ = some (.int .i64 (zs.getD i 0)) := fun i hi => by
      have := hcell i hi
      rwa [show (⟨b, off, none⟩ : Addr).add i = ⟨b, off + i, none⟩ by unfold Addr.add; split <;> simp_all] at this
    refine ⟨b, off, rfl, ?_, fun i hi => ?_⟩
    · have := hc 0 (by omega)
      rcases Nat.lt_or_ge b W.heap.size with hlt | hge
      · exact hlt
      · rw [World.cell?, Array.getElem?_eq_none (by simpa using hge)] at this
        cases this
    · have hi' : i < zs.length := by rw [e1] at hi; omega
      rw [hc i hi']
      simp [List.getElem_take, hi']
end Go.Proofs.Ytkhnjipjbhcgdab

/-
  THE PARTS of treeheadkeep.Followed: made; what a watcher answers to a book that grows.
-/
namespace Go.Proofs.Ytkhnjipjbhcgdab
open Go.RowKit Hp

theorem sign_yes (x n z : Nat) (r : ByteArray) (h1 : 1 ≤ x) (h2 : x ≤ 1018) (h3 : 1 ≤ n) (h4 : n ≤ 1018) (h5 : z ≤ 40) (h6 : Pl.isSumB r = true) : signS x n z r = Pl.signT x n z r ∧ signE x n z r = 0 := by
  have hb : Pl.signB (x : Int) (n : Int) (z : Int) r = true := by
    unfold Pl.signB
    simp only [Bool.and_eq_true, decide_eq_true_eq]
    refine ⟨?_, h6⟩
    omega
  unfold signS signE
  rw [if_pos hb, if_pos hb, Int.toNat_natCast, Int.toNat_natCast, Int.toNat_natCast]
  exact ⟨rfl, rfl⟩

set_option maxRecDepth 100000 in
set_option maxHeartbeats 1000000 in
theorem made_any (p : Option Addr) (cap n : Nat) (ss : List ByteArray) (nonce : Nat) (w : World) (hl : ss.length = n) (hr : Row w p ss) (hc : n ≤ cap) (hm : cap ≤ 9223372036854775807) (h40 : n ≤ 40) (h30 : ∀ s ∈ ss, s.size ≤ 30) (h1 : 1 ≤ nonce) (h2 : nonce ≤ 1018) :
    Calls Try.prog 17 #[.slice p n cap, .int .i64 7, .int .i64 nonce] w fun e w' => e = .returned (.tuple #[.string (Pl.signT 7 nonce n (Pl.root ss)), .string (Pl.root ss), .int .i64 0]) ∧ Below w.heap.size w w' := by
  have HR : Hid _ := troot_to p cap n ss (Pl.root ss) w hl hc hm hr h40 h30 rfl
  obtain ⟨e1, e2⟩ := sign_yes 7 nonce n (Pl.root ss) (by omega) (by omega) h1 h2 h40 (Pl.root_isSum ss)
  have HS : Hid (∀ w, Calls Try.prog 11 #[.int .i64 7, .int .i64 nonce, .agg #[.int .i64 n, .string (Pl.root ss)]] w fun e w' => e = .returned (.tuple #[.string (Pl.signT 7 nonce n (Pl.root ss)), .int .i64 0]) ∧ Below w.heap.size w w') := fun w => by
    have h := tsign_any 7 nonce n (Pl.root ss) w (root_le _)
    have e1' : signS 7 (nonce : Int) (n : Int) (Pl.root ss) = Pl.signT 7 nonce n (Pl.root ss) := e1
    have e2' : signE 7 (nonce : Int) (n : Int) (Pl.root ss) = 0 := e2
    rwa [e1', e2'] at h
  clear e1 e2
  generalize Pl.signT 7 nonce n (Pl.root ss) = B at *
  generalize Pl.root ss = R at *
  go_enter Try.func17, Try.ntmps17
  go_wp2_with fail
  refine Calls.mono HR.out ?_
  rintro e w1 ⟨rfl, b1⟩
  go_wp2_with fail
  refine (HS.out _).mono ?_
  rintro e w2 ⟨rfl, b2⟩
  go_wp2_with fail
  refine bodyPost_ret (v := .tuple #[.string B, .string R, .int .i64 0]) (by simp [results, Try.results17, go_sem]) rfl ⟨rfl, b1.trans (b2.mono b1.size)⟩

theorem take_take_le (L : List ByteArray) (m n : Nat) (h : m ≤ n) : (L.take n).take m = L.take m := by rw [List.take_take, Nat.min_eq_left h]
/-- The path from what was seen to what is shown. -/
def pathTo (L : List ByteArray) (m n : Nat) : List ByteArray := if m = 0 then [] else Pl.parts (L.take n) m true
theorem goes_made (L : List ByteArray) (m n : Nat) (hm : m < n) (hn : n ≤ L.length) (hL : L.length ≤ 40) : goesB m (Pl.root (L.take m)) (decide (0 < m)) n (Pl.root (L.take n)) (pathTo L m n) = true := by
  have hln : (L.take n).length = n := by rw [List.length_take]; omega
  unfold goesB pathTo
  by_cases h0 : m = 0
  · rw [if_pos (Or.inr h0), if_pos h0]
    rfl
  · rw [if_neg (by rintro (h | h); simp at h; omega; exact h0 h), if_neg h0]
    have h := ext_made (L.take n) m (by omega) (by omega) (by omega)
    rw [take_take_le L m n (by omega), hln] at h
    rw [h]
    rfl
theorem holds_made (L : List ByteArray) (n a : Nat) (ha : a < n) (hn : n ≤ L.length) (hL : L.length ≤ 40) (h30 : ∀ s ∈ L, s.size ≤ 30) : holdsP n (Pl.root (L.take n)) true false (n : Int) (a : Int) (L[a]'(by omega)) (Pl.path (L.take n) a) = 0 := by
  have hln : (L.take n).length = n := by rw [List.length_take]; omega
  unfold holdsP
  rw [if_neg (by simp), if_neg (by simp), if_neg (fun h => h rfl)]
  have h := incl_made (L.take n) a (by omega) (by omega) (fun s hs => h30 s (List.mem_of_mem_take hs))
  have h2 : ((L.take n).length : Int) = (n : Int) := by rw [hln]
  rw [h2, List.getElem_take] at h
  exact h
theorem Wt.ne {w : World} {F C : Nat} {sp : Option Addr} {key : Int} {size : Nat} {root : ByteArray} {seen closed : Bool} (h : Wt w F C sp key size root seen closed) : F ≠ C ∧ ∀ S, sp = some ⟨S, 0, none⟩ → S ≠ C := by
  have hc := h.chan
  unfold Chan0 at hc
  constructor
  · rintro rfl
    have hb := h.box
    unfold Box at hb
    rw [hc] at hb
    simp at hb
  · rintro S hs rfl
    rcases h.head with ⟨_, h0⟩ | ⟨_, S', h1, h2⟩
    · rw [h0] at hs; cases hs
    · rw [h1] at hs
      simp only [Option.some.injEq, Addr.mk.injEq, and_true] at hs
      subst hs
      unfold Box at h2
      rw [hc] at h2
      simp at h2
theorem key7 : keyAns 7 = .tuple #[.int .i64 (Pl.powM 4 7 : Nat), .int .i64 0] := rfl
end Go.Proofs.Ytkhnjipjbhcgdab
