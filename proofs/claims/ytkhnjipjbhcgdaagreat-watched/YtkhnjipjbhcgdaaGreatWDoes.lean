import Derived.Test.YtkhnjipjbhcgdaaGreatTExt2
import Derived.Test.YtkhnjipjbhcgdaaGreatRBoth
import Derived.Test.YtkhnjipjbhcgdaaGreatPaths
import Derived.Test.YtkhnjipjbhcgdaaGreatOpen2
import Derived.Test.YtkhnjipjbhcgdaaGreatTWatch2
import Derived.Test.YtkhnjipjbhcgdaaGreatRoots
/-
  THE WALKS of treeheadlaw.checks, treeheadlaw.Checks.
-/
namespace Go.Proofs.YtkhnjipjbhcgdaaGreat
open Go.RowKit

theorem inclE_eq (r : ByteArray) (size index : Int) (leaf : ByteArray) (P : List ByteArray) : inclE r size index leaf P = inclA r size index leaf P := by
  unfold inclE inclA
  cases Pl.leafT leaf index.toNat size.toNat P with
  | none => rfl
  | some x => rfl
theorem extE_eq (os : Int) (a : ByteArray) (fs : Int) (b : ByteArray) (P : List ByteArray) : extE os a fs b P = extA os a fs b P := by
  unfold extE extA extV
  cases Pl.bothT a os.toNat fs.toNat true P with
  | none => rfl
  | some x => rfl
theorem Box.only {w w' : World} {B D : Nat} {t : TypeId} {l : List Value} (h : Box w B t l) (ho : Only D w w') (hne : B ≠ D) : Box w' B t l := by
  unfold Box
  rw [ho.block B hne]
  exact h
theorem rowOf_row (w : World) (D : Nat) (ss : List ByteArray) (hl : ss.length ≤ maxLen) (hs : ∀ s ∈ ss, s.size ≤ maxLen) (h : Box w D 9 (rowOf ss 8)) : Row w (some ⟨D, 0, none⟩) ss := by
  refine ⟨hl, hs, Or.inr ⟨D, 0, rfl, h.lt, fun i hi => ?_⟩⟩
  rw [Nat.zero_add, h.cell i]
  exact rowOf_at ss i hi

end Go.Proofs.YtkhnjipjbhcgdaaGreat

/-
  (*treeheadlaw.pair).does, in parts: Update.
-/
namespace Go.Proofs.YtkhnjipjbhcgdaaGreat
open Go.RowKit Hp

theorem holdsE_eq (size : Nat) (root : ByteArray) (seen closed : Bool) (n i : Int) (leaf : ByteArray) (path : List ByteArray) : holdsE size root seen closed n i leaf path = holdsP size root seen closed n i leaf path := by
  unfold holdsE holdsP
  rw [inclE_eq]
theorem updE_eq (key : Int) (size : Nat) (root : ByteArray) (seen closed : Bool) (b : ByteArray) (path : List ByteArray) : updE key size root seen closed b path = updP key size root seen closed b path := by
  unfold updE updP goesB
  rw [extE_eq]
  split
  · rfl
  · split
    · rfl
    · split
      · rfl
      · split
        · by_cases hp : path = []
          · rw [if_pos hp, if_pos (by rw [decide_eq_true_eq, hp]; rfl)]
          · rw [if_neg hp, if_neg (by rw [decide_eq_true_eq, List.length_eq_zero_iff]; exact hp)]
        · by_cases hp : extA size root (openSize key b) (openRoot key b) path = 0
          · rw [if_pos hp, if_pos (decide_eq_true hp)]
          · rw [if_neg hp, if_neg (by rw [decide_eq_true_eq]; exact hp)]

theorem Wt.own {w : World} {F C : Nat} {sp : Option Addr} {key : Int} {size : Nat} {root : ByteArray} {closed : Bool} (h : Wt w F C sp key size root true closed) : ∃ S, sp = some ⟨S, 0, none⟩ := by
  rcases h.head with ⟨h0, _⟩ | ⟨_, S, h1, _⟩
  · cases h0
  · exact ⟨S, h1⟩
theorem tupdate_any (F C : Nat) (sp : Option Addr) (key : Int) (size : Nat) (root : ByteArray) (seen closed : Bool) (b : ByteArray) (p : Option Addr) (cap : Nat) (path : List ByteArray) (w : World) (h : Wt w F C sp key size root seen closed) (hrs : root.size ≤ maxLen) (hr : Row w p path) (hpc : path.length ≤ cap) :
    Calls Tryz.prog 33 #[.pointer (some ⟨F, 0, none⟩), .string b, .slice p path.length cap] w fun e w' => e = .returned (.int .i64 (updP key size root seen closed b path)) ∧ Turn (fun k => k = F) w w' ∧
      ∃ sp', Wt w' F C sp' key (if updP key size root seen closed b path = 0 then openSize key b else size) (if updP key size root seen closed b path = 0 then openRoot key b else root) (if updP key size root seen closed b path = 0 then true else seen) closed := by
  have no : ∀ {x : Int} {w' : World}, ¬ x = 0 → Below w.heap.size w w' → Turn (fun k => k = F) w w' ∧ ∃ sp', Wt w' F C sp' key (if x = 0 then openSize key b else size) (if x = 0 then openRoot key b else root) (if x = 0 then true else seen) closed := by
    intro x w' hx hb
    rw [if_neg hx, if_neg hx, if_neg hx]
    exact ⟨Turn.of hb, sp, h.grow hb⟩
  cases closed with
  | true =>
    have hE : updP key size root seen true b path = 10 := rfl
    rw [hE]
    refine (tupdate_closed F C sp key size root seen b _ w h).mono ?_
    rintro e w' ⟨rfl, rfl⟩
    exact ⟨rfl, no (by omega) (Below.refl _ _)⟩
  | false =>
    by_cases he : openE key b = 0
    · by_cases ho : seen = true ∧ openSize key b < size
      · have hE : updP key size root seen false b path = 5 := by
          unfold updP
          rw [if_neg (by simp), if_neg (fun h => h he), if_pos ho]
        rw [hE]
        obtain ⟨rfl, ho⟩ := ho
        obtain ⟨S, rfl⟩ := h.own
        refine (tupdate_old F C S key size root b _ w h he ho).mono ?_
        rintro e w' ⟨rfl, hb⟩
        exact ⟨rfl, no (by omega) hb⟩
      · cases hg : goesB size root seen (openSize key b) (openRoot key b) path with
        | false =>
          have hE : updP key size root seen false b path = 6 := by
            unfold updP
            rw [if_neg (by simp), if_neg (fun h => h he), if_neg ho, if_neg (by rw [hg]; simp)]
          rw [hE]
          refine (tupdate_no F C sp key size root seen b p cap path w h hrs hr hpc he ho hg).mono ?_
          rintro e w' ⟨rfl, hb⟩
          exact ⟨rfl, no (by omega) hb⟩
        | true =>
          have hE : updP key size root seen false b path = 0 := by
            unfold updP
            rw [if_neg (by simp), if_neg (fun h => h he), if_neg ho, if_pos hg]
          rw [hE, if_pos rfl, if_pos rfl, if_pos rfl]
          refine (tupdate_yes F C sp key size root seen b p cap path w h hrs hr hpc he _ _ rfl rfl ho hg).mono ?_
          rintro e w' ⟨rfl, S, _, hw, ht⟩
          exact ⟨rfl, ht, _, hw⟩
    · have hE : updP key size root seen false b path = openE key b := by
        unfold updP
        rw [if_neg (by simp), if_pos he]
      rw [hE]
      refine (tupdate_open F C sp key size root seen b _ w h he).mono ?_
      rintro e w' ⟨rfl, hb⟩
      exact ⟨rfl, no he hb⟩

theorem Hnd.box {w : World} {B c N : Nat} {p q : Option Addr} {ss : List ByteArray} (h : Hnd w B p c q N ss) : ∀ g, q = some ⟨g, 0, none⟩ → Box w g 9 (rowOf ss 8) := by
  intro g hg
  rcases h with ⟨_, _, h1, _⟩ | ⟨g', h1, h2, h3, h4⟩
  · rw [h1] at hg; cases hg
  · rw [h1] at hg
    simp only [Option.some.injEq, Addr.mk.injEq, and_true] at hg
    subst hg
    exact h4
theorem Row.drawn {w : World} {p : Option Addr} {ss : List ByteArray} (h : Row w p ss) : Row w.drew p ss := h.grow ((Below.refl _ _).drew) (Nat.le_refl _)
theorem But.turn {R : Nat} {w w' : World} (h : But R w w') : Turn (fun k => k = R) w w' := ⟨h.os, h.tape, h.output, h.size, fun k hk hX => h.block k hk hX⟩
theorem Wt.notHead {w : World} {F C R : Nat} {sp : Option Addr} {key : Int} {size : Nat} {root : ByteArray} {seen closed : Bool} {o : Obj} (h : Wt w F C sp key size root seen closed) (hR : w.heap[R]? = some o) (hk : Nat.beq (59 + 1) (kindO o) = false) : ∀ S, sp = some ⟨S, 0, none⟩ → ¬ S = R := by
  intro S hS he
  rcases h.head with ⟨_, h0⟩ | ⟨_, S', h1, h2⟩
  · rw [h0] at hS; cases hS
  · rw [h1] at hS
    simp only [Option.some.injEq, Addr.mk.injEq, and_true] at hS
    subst hS
    exact kne h2 hR hk he
/-- What a step leaves of its pair. -/
def Did (B : Nat) (r : PRec) (w w' : World) : Prop := ∃ r' : PRec, r'.pb = r.pb ∧ r'.F = r.F ∧ r'.C = r.C ∧ r'.R = r.R ∧ PrOk w' B r' ∧ Turn r.mine w w'

set_option maxRecDepth 100000 in
set_option maxHeartbeats 8000000 in
theorem does_update (W w : World) (r : PRec) (h : PrOk w W.heap.size r) (hk : Below W.heap.size W w) (wat N : Int) (b : ByteArray) (p : Option Addr) (cap : Nat) (path : List ByteArray) (hr : Row W p path) (hi : Inc p cap path) (a1 a2 : Int) (al : ByteArray) (pa : Option Addr) (na ca : Nat) :
    Calls Tryz.prog 18 #[.pointer (some ⟨r.pb, 0, none⟩), .agg #[.int .i64 2, .int .i64 wat, .int .i64 N, .string b, .slice p path.length cap, .int .i64 a1, .int .i64 a2, .string al, .slice pa na ca]] w fun e w' => e = .returned (.bool true) ∧ Did W.heap.size r w w' := by
  obtain ⟨pb, F, C, R, sp, K, size, root, seen, closed⟩ := r
  have hO : Box (w.alloc (.cells #[.int .i64 2, .int .i64 wat, .int .i64 N, .string b, .slice p path.length cap, .int .i64 a1, .int .i64 a2, .string al, .slice pa na ca] 39)) w.heap.size 39 [.int .i64 2, .int .i64 wat, .int .i64 N, .string b, .slice p path.length cap, .int .i64 a1, .int .i64 a2, .string al, .slice pa na ca] := Box.new w _ _
  have hka : Below w.heap.size w (w.alloc (.cells #[.int .i64 2, .int .i64 wat, .int .i64 N, .string b, .slice p path.length cap, .int .i64 a1, .int .i64 a2, .string al, .slice pa na ca] 39)) := (Below.refl _ _).alloc (Nat.le_refl _) _
  have HRW : Hid (Row W p path) := hr
  have HI : Hid (Inc p cap path) := hi
  have HP : Hid (PrOk w W.heap.size ⟨pb, F, C, R, sp, K, size, root, seen, closed⟩) := h
  have HKW : Hid (Below W.heap.size W w) := hk
  have hsz : W.heap.size ≤ w.heap.size := hk.size
  clear h hk hr hi
  have o0 := hO.cell 0
  have o4 := hO.cell 4
  go_enter Tryz.func18, Tryz.ntmps18
  go_upto_region 3 with fail
  generalize w.alloc (.cells #[.int .i64 2, .int .i64 wat, .int .i64 N, .string b, .slice p path.length cap, .int .i64 a1, .int .i64 a2, .string al, .slice pa na ca] 39) = wa at *
  have HRa : Hid (Row wa p path) := HRW.out.grow (HKW.out.trans (hka.mono hsz)) (Nat.le_refl _)
  clear o0
  go_wp2_with fail
  refine (handed_any p cap path wa HRa.out HI.out).mono ?_
  rintro e w1 ⟨q, N1, rfl, hd1, hb1⟩
  have hO1 := hO.grow hb1 hO.lt
  have hk1 : Below w.heap.size w w1 := hka.trans (hb1.mono hka.size)
  have HP1 : Hid (PrOk w1 W.heap.size ⟨pb, F, C, R, sp, K, size, root, seen, closed⟩) := HP.out.grow hk1
  have HD1 : Hid (Hnd w1 wa.heap.size p cap q N1 path) := hd1
  have e1 := hd1.len
  have hsa : w.heap.size < wa.heap.size := hO.lt
  have hO1l := hO1.lt
  clear hb1 hd1 hO o4 HRa
  have o3 := hO1.cell 3
  have o4 := hO1.cell 4
  have p0 := HP1.out.box.cell 0
  have HLt : Hid (F < w.heap.size ∧ C < w.heap.size ∧ R < w.heap.size ∧ pb < w.heap.size) := ⟨HP.out.wt.box.lt, HP.out.wt.chan.lt, HP.out.rf.lt, HP.out.box.lt⟩
  have HUp : Hid (Calls Tryz.prog 33 #[.pointer (some ⟨F, 0, none⟩), .string b, .slice q path.length N1] w1.drew fun e w' => e = .returned (.int .i64 (updP K size root seen closed b path)) ∧ Turn (fun k => k = F) w1 w' ∧
      ∃ sp', Wt w' F C sp' K (if updP K size root seen closed b path = 0 then openSize K b else size) (if updP K size root seen closed b path = 0 then openRoot K b else root) (if updP K size root seen closed b path = 0 then true else seen) closed) := by
    have hd := (Below.refl w1.heap.size w1).drew
    have := tupdate_any F C sp K size root seen closed b q N1 path w1.drew (Wt.grow HP1.out.wt hd) HP1.out.rs ((HD1.out.row HRW.out.len HRW.out.size).drawn) e1.1
    exact this.mono fun e w' ⟨x, y, z⟩ => ⟨x, (Turn.of (X := fun k => k = F) hd).trans y (fun _ _ h => h), z⟩
  have HRU : Hid (∀ w', Row w' p path → Box w' R 67 [.int .i64 K, .int .i64 size, .string root, .bool seen, .bool closed] → Calls Tryz.prog 34 #[.pointer (some ⟨R, 0, none⟩), .string b, .slice p path.length cap] w' fun e w'' => e = .returned (.int .i64 (updP K size root seen closed b path)) ∧ But R w' w'' ∧ Box w'' R 67 (if updP K size root seen closed b path = 0 then [.int .i64 K, .int .i64 (openSize K b : Int), .string (openRoot K b), .bool true, .bool closed] else [.int .i64 K, .int .i64 size, .string root, .bool seen, .bool closed])) := fun w' h1 h2 => by
    have := rupdate_any R K size root seen closed b p cap path w' h2 HP1.out.rs h1 HI.out.len.1 HI.out.len.2
    rw [updE_eq] at this
    exact this
  have HZ : Hid ((openRoot K b).size ≤ maxLen) := openRoot_max K b
  generalize updP K size root seen closed b path = X at *
  generalize openSize K b = OS at *
  generalize openRoot K b = OR at *
  go_wp2_with fail
  go_region_held3 (fun w' => w'.cell? ⟨pb, 0, none⟩ = some (.pointer (some ⟨F, 0, none⟩)) ∧ w'.cell? ⟨w.heap.size, 3, none⟩ = some (.string b) ∧ w'.cell? ⟨w.heap.size, 4, none⟩ = some (.slice p path.length cap)) (go_keep) (first
    | (go_at_call 33; refine Calls.mono HUp.out ?_; rintro e w2 ⟨rfl, ht2, sp2, hw2⟩; have hO2 := hO1.turn ht2 (fun he => by have := HLt.out; omega); have hbx2 := HP1.out.box.turn ht2 (fun he => kne HP1.out.box HP1.out.wt.box rfl he); have x0 := hbx2.cell 0; have x3 := hO2.cell 3; have x4 := hO2.cell 4))
  all_goals
    have k2 : Turn (PRec.mine ⟨pb, F, C, R, sp, K, size, root, seen, closed⟩) w w2 := (Turn.of hk1).trans ht2 (fun _ _ h => Or.inl h)
    have hrf2 := HP1.out.rf.turn ht2 (fun he => kne HP1.out.rf HP1.out.wt.box rfl he)
    have HD2 : Hid (Hnd w2 wa.heap.size p cap q N1 path) := HD1.out.turn ht2 (fun g hg he => by have := (HD1.out.lt g hg).1; have := HLt.out; omega)
    have HW2 : Hid (Wt w2 F C sp2 K (if X = 0 then OS else size) (if X = 0 then OR else root) (if X = 0 then true else seen) closed) := hw2
    have HBW2 : Hid (Below W.heap.size W w2) := HKW.out.trans (k2.below (fun k h => HP.out.ge k h) hsz)
    have S1 : Hid _ := still_any p cap path wa.heap.size N1 q w2 (HRW.out.grow HBW2.out (Nat.le_refl _)) HI.out HD2.out (fun b o hne hp => by have := HRW.out.lt b o hne hp; omega)
    have hrs : root.size ≤ maxLen := HP.out.rs
    clear x0 x3 hw2 ht2 HD1 HP1 HUp hk1 hO1
    go_wp2_with fail
    refine Calls.mono S1.out ?_
    rintro e w3 ⟨rfl, ht3⟩
    have nq : ∀ g, q = some ⟨g, 0, none⟩ → w.heap.size < g := fun g hg => by have := (HD2.out.lt g hg).1; omega
    have hO3 := hO2.turn ht3 (fun he => by have := nq _ he; omega)
    have hbx3 := hbx2.turn ht3 (fun he => by have := nq _ he; have := HLt.out; omega)
    have hrf3 := hrf2.turn ht3 (fun he => by have := nq _ he; have := HLt.out; omega)
    have HW3 : Hid _ := Wt.turn HW2.out ht3 (fun he => by have := nq _ he; have := HLt.out; omega) (fun he => by have := nq _ he; have := HLt.out; omega) (fun S hS he => by
      rcases HW2.out.head with ⟨_, h0⟩ | ⟨_, S', h1, h2⟩
      · rw [h0] at hS; cases hS
      · rw [h1] at hS
        simp only [Option.some.injEq, Addr.mk.injEq, and_true] at hS
        subst hS
        exact kne h2 (HD2.out.box _ he) rfl rfl)
    have k3 : Turn (PRec.mine ⟨pb, F, C, R, sp, K, size, root, seen, closed⟩) w w3 := k2.trans ht3 (fun k hk he => by have := nq k he; omega)
    have HBW3 : Hid (Below W.heap.size W w3) := HKW.out.trans (k3.below (fun k h => HP.out.ge k h) hsz)
    have RU : Hid _ := HRU.out w3.drew ((HRW.out.grow HBW3.out (Nat.le_refl _)).drawn) (hrf3.drew)
    have K3 : Hid _ := k3
    have HF3 : Hid _ := hrf3
    clear S1 hO2 hbx2 hrf2 HW2 HD2 k2 HBW2 x4 HRU k3 hrf3 ht3
    have p1 := hbx3.cell 1
    have x3 := hO3.cell 3
    have x4 := hO3.cell 4
    go_wp2_with fail
    go_region_held3 (fun w' => w'.cell? ⟨pb, 1, none⟩ = some (.pointer (some ⟨R, 0, none⟩)) ∧ w'.cell? ⟨w.heap.size, 3, none⟩ = some (.string b) ∧ w'.cell? ⟨w.heap.size, 4, none⟩ = some (.slice p path.length cap)) (go_keep) (first
      | (go_at_call 34; refine Calls.mono RU.out ?_; rintro e w4 ⟨rfl, hb4, hx4⟩; have hb4' : But R w3 w4 := (But.of ((Below.refl _ _).drew)).trans hb4; have hO4 := hO3.but hb4' (by have := HLt.out; omega); have hbx4 := hbx3.but hb4' (fun he => kne HP.out.box HP.out.rf rfl he); have y1 := hbx4.cell 1; have y3 := hO4.cell 3; have y4 := hO4.cell 4))
    all_goals
      have T4 : Turn (fun k => k = R) w3 w4 := hb4'.turn
      have hw4 := Wt.turn HW3.out T4 (kne HP.out.wt.box HP.out.rf rfl) (kne HP.out.wt.chan HP.out.rf rfl) (HW3.out.notHead HF3.out rfl)
      have K4 : Turn (PRec.mine ⟨pb, F, C, R, sp, K, size, root, seen, closed⟩) w w4 := K3.out.trans T4 (fun k _ h => Or.inr (Or.inr h))
      have HDid : Hid (Did W.heap.size ⟨pb, F, C, R, sp, K, size, root, seen, closed⟩ w w4) := by
        by_cases hX : X = 0
        · rw [if_pos hX, if_pos hX, if_pos hX] at hw4
          rw [if_pos hX] at hx4
          exact ⟨⟨pb, F, C, R, sp2, K, OS, OR, true, closed⟩, rfl, rfl, rfl, rfl, ⟨HP.out.le, hbx4, hw4, hx4, HZ.out⟩, K4⟩
        · rw [if_neg hX, if_neg hX, if_neg hX] at hw4
          rw [if_neg hX] at hx4
          exact ⟨⟨pb, F, C, R, sp2, K, size, root, seen, closed⟩, rfl, rfl, rfl, rfl, ⟨HP.out.le, hbx4, hw4, hx4, HP.out.rs⟩, K4⟩
      clear K4 hw4 T4 hb4 hb4' hx4 hbx4 hO4 hbx3 hO3 HW3 HF3 K3 RU HP HKW HRW HBW3 HZ p1 x3 x4 y1 y3 y4
      go_wp2_with fail
      go_ret
      exact ⟨rfl, HDid.out⟩
end Go.Proofs.YtkhnjipjbhcgdaaGreat
