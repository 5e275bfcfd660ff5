import Derived.Test.YtkhnjipjbhcgdaaGreatRWatch
/-
  THE WALK of treeheadref's (*Watcher).Update.
-/
namespace Go.Proofs.YtkhnjipjbhcgdaaGreat
open Go.RowKit Hp

/-- What Update is to answer. -/
def updE (key : Int) (size : Nat) (root : ByteArray) (seen closed : Bool) (b : ByteArray) (path : List ByteArray) : Int :=
  if closed = true then 10 else if ¬ openE key b = 0 then openE key b else if seen = true ∧ openSize key b < size then 5
  else if seen = false ∨ size = 0 then (if path = [] then 0 else 6) else if extE size root (openSize key b) (openRoot key b) path = 0 then 0 else 6

/-- What Update leaves: of what lay there the watcher alone has turned, and holds what was seen. -/
def UpdEnd (F : Nat) (t : TypeId) (l l' : List Value) (x : Int) (w w' : World) : Prop := But F w w' ∧ Box w' F t (if x = 0 then l' else l)

theorem UpdEnd.no {F : Nat} {t : TypeId} {l l' : List Value} {x : Int} {w w' : World} (h : Box w F t l) (hx : ¬ x = 0) (hb : Below w.heap.size w w') : UpdEnd F t l l' x w w' :=
  ⟨But.of hb, by rw [if_neg hx]; exact h.grow hb h.lt⟩

theorem openE_or (key : Int) (b : ByteArray) : openE key b = 2 ∨ openE key b = 3 ∨ openE key b = 4 ∨ openE key b = 0 := by
  unfold openE
  split
  · simp
  · split
    · simp
    · split <;> simp

set_option maxRecDepth 100000 in
set_option maxHeartbeats 1000000 in
theorem rupdate_closed (F : Nat) (key : Int) (size : Nat) (root : ByteArray) (seen : Bool) (b : ByteArray) (pv : Value) (w : World) (h : Box w F 67 [.int .i64 key, .int .i64 size, .string root, .bool seen, .bool true]) :
    Calls Tryz.prog 34 #[.pointer (some ⟨F, 0, none⟩), .string b, pv] w fun e w' => e = .returned (.int .i64 10) ∧ w' = w := by
  have q4 := h.cell 4
  have hlt := h.lt
  go_enter Tryz.func34, Tryz.ntmps34
  go_wp2_with fail
  go_ret
  exact ⟨rfl, rfl⟩

set_option maxRecDepth 100000 in
set_option maxHeartbeats 1000000 in
theorem rupdate_open (F : Nat) (key : Int) (size : Nat) (root : ByteArray) (seen : Bool) (b : ByteArray) (pv : Value) (w : World) (h : Box w F 67 [.int .i64 key, .int .i64 size, .string root, .bool seen, .bool false]) (he : ¬ openE key b = 0) :
    Calls Tryz.prog 34 #[.pointer (some ⟨F, 0, none⟩), .string b, pv] w fun e w' => e = .returned (.int .i64 (openE key b)) ∧ Below w.heap.size w w' := by
  have q4 := h.cell 4
  have q0 := h.cell 0
  have hlt := h.lt
  have hop := fun w => ropen_any key b w
  have hbe : (openE key b == 0) = false := by rw [beq_eq_false_iff_ne]; exact he
  clear he
  generalize openE key b = E at *
  generalize openSize key b = S at *
  generalize openRoot key b = R at *
  go_enter Tryz.func34, Tryz.ntmps34
  go_wp2_with fail
  refine (hop _).mono ?_
  rintro e w1 ⟨rfl, hb⟩
  go_wp2_with fail
  go_ret
  first
    | exact ⟨rfl, hb.alloc hb.size _⟩
    | exact ⟨rfl, ((hb.alloc hb.size _).setCell hb.size _).setCell hb.size _⟩

set_option maxRecDepth 100000 in
set_option maxHeartbeats 2000000 in
theorem rupdate_old (F : Nat) (key : Int) (size : Nat) (root : ByteArray) (b : ByteArray) (p : Option Addr) (cap : Nat) (path : List ByteArray) (w : World) (h : Box w F 67 [.int .i64 key, .int .i64 size, .string root, .bool true, .bool false]) (he : openE key b = 0) (hS : (openSize key b : Int) < (size : Int)) :
    Calls Tryz.prog 34 #[.pointer (some ⟨F, 0, none⟩), .string b, .slice p path.length cap] w fun e w' => e = .returned (.int .i64 5) ∧ Below w.heap.size w w' := by
  have q4 := h.cell 4
  have q0 := h.cell 0
  have hlt := h.lt
  have hop := fun w => ropen_any key b w
  rw [he] at hop
  clear he
  generalize openSize key b = S at *
  generalize openRoot key b = R at *
  go_enter Tryz.func34, Tryz.ntmps34
  go_wp2_with fail
  refine (hop _).mono ?_
  rintro e w1 ⟨rfl, hb⟩
  have hx := (h.grow hb h.lt).alloc (.cells #[.int .i64 (S : Int), .string R] 59)
  have hy := Box.new w1 59 [.int .i64 (S : Int), .string R]
  have hk : Below w.heap.size w (w1.alloc (.cells #[.int .i64 (S : Int), .string R] 59)) := hb.alloc hb.size _
  have hne : ¬ F = w1.heap.size := by have := hb.size; omega
  have q1 := hx.cell 1
  have q3 := hx.cell 3
  have c0 := hy.cell 0
  go_wp2_with fail
  go_region
  clear q1 q3 c0 q4 q0 hop
  change Box (w1.alloc (.cells #[.int .i64 (S : Int), .string R] 59)).drew F _ _ at hx
  change Box (w1.alloc (.cells #[.int .i64 (S : Int), .string R] 59)).drew w1.heap.size _ _ at hy
  replace hk := hk.drew
  have hl1 := hx.lt
  generalize (w1.alloc (.cells #[.int .i64 (S : Int), .string R] 59)).drew = W at *
  go_wp2_with fail
  go_ret
  exact ⟨rfl, hk⟩

set_option maxRecDepth 100000 in
set_option maxHeartbeats 2000000 in
theorem rupdate_new6 (F : Nat) (key : Int) (size : Nat) (root : ByteArray) (b : ByteArray) (p : Option Addr) (cap : Nat) (path : List ByteArray) (w : World) (h : Box w F 67 [.int .i64 key, .int .i64 size, .string root, .bool false, .bool false]) (he : openE key b = 0) (hp : 0 < (path.length : Int)) :
    Calls Tryz.prog 34 #[.pointer (some ⟨F, 0, none⟩), .string b, .slice p path.length cap] w fun e w' => e = .returned (.int .i64 6) ∧ Below w.heap.size w w' := by
  have q4 := h.cell 4
  have q0 := h.cell 0
  have hlt := h.lt
  have hop := fun w => ropen_any key b w
  rw [he] at hop
  clear he
  generalize openSize key b = S at *
  generalize openRoot key b = R at *
  go_enter Tryz.func34, Tryz.ntmps34
  go_wp2_with fail
  refine (hop _).mono ?_
  rintro e w1 ⟨rfl, hb⟩
  have hx := (h.grow hb h.lt).alloc (.cells #[.int .i64 (S : Int), .string R] 59)
  have hy := Box.new w1 59 [.int .i64 (S : Int), .string R]
  have hk : Below w.heap.size w (w1.alloc (.cells #[.int .i64 (S : Int), .string R] 59)) := hb.alloc hb.size _
  have hne : ¬ F = w1.heap.size := by have := hb.size; omega
  have q1 := hx.cell 1
  have q3 := hx.cell 3
  have c0 := hy.cell 0
  go_wp2_with fail
  go_region
  clear q1 q3 c0 q4 q0 hop
  change Box (w1.alloc (.cells #[.int .i64 (S : Int), .string R] 59)).drew F _ _ at hx
  change Box (w1.alloc (.cells #[.int .i64 (S : Int), .string R] 59)).drew w1.heap.size _ _ at hy
  replace hk := hk.drew
  have hl1 := hx.lt
  generalize (w1.alloc (.cells #[.int .i64 (S : Int), .string R] 59)).drew = W at *
  have q1 := hx.cell 1
  have q3 := hx.cell 3
  go_wp2_with fail
  go_ret
  exact ⟨rfl, hk⟩

set_option maxRecDepth 100000 in
set_option maxHeartbeats 2000000 in
theorem rupdate_zero6 (F : Nat) (key : Int) (size : Nat) (root : ByteArray) (b : ByteArray) (p : Option Addr) (cap : Nat) (path : List ByteArray) (w : World) (h : Box w F 67 [.int .i64 key, .int .i64 size, .string root, .bool true, .bool false]) (he : openE key b = 0) (hz : size = 0) (hp : 0 < (path.length : Int)) :
    Calls Tryz.prog 34 #[.pointer (some ⟨F, 0, none⟩), .string b, .slice p path.length cap] w fun e w' => e = .returned (.int .i64 6) ∧ Below w.heap.size w w' := by
  subst hz
  have q4 := h.cell 4
  have q0 := h.cell 0
  have hlt := h.lt
  have hop := fun w => ropen_any key b w
  rw [he] at hop
  clear he
  generalize openSize key b = S at *
  generalize openRoot key b = R at *
  go_enter Tryz.func34, Tryz.ntmps34
  go_wp2_with fail
  refine (hop _).mono ?_
  rintro e w1 ⟨rfl, hb⟩
  have hx := (h.grow hb h.lt).alloc (.cells #[.int .i64 (S : Int), .string R] 59)
  have hy := Box.new w1 59 [.int .i64 (S : Int), .string R]
  have hk : Below w.heap.size w (w1.alloc (.cells #[.int .i64 (S : Int), .string R] 59)) := hb.alloc hb.size _
  have hne : ¬ F = w1.heap.size := by have := hb.size; omega
  have q1 := hx.cell 1
  have q3 := hx.cell 3
  have c0 := hy.cell 0
  go_wp2_with fail
  go_region
  clear q1 q3 c0 q4 q0 hop
  change Box (w1.alloc (.cells #[.int .i64 (S : Int), .string R] 59)).drew F _ _ at hx
  change Box (w1.alloc (.cells #[.int .i64 (S : Int), .string R] 59)).drew w1.heap.size _ _ at hy
  replace hk := hk.drew
  have hl1 := hx.lt
  generalize (w1.alloc (.cells #[.int .i64 (S : Int), .string R] 59)).drew = W at *
  have q1 := hx.cell 1
  have q3 := hx.cell 3
  go_wp2_with fail
  go_ret
  exact ⟨rfl, hk⟩

set_option maxRecDepth 100000 in
set_option maxHeartbeats 2000000 in
theorem rupdate_new0 (F : Nat) (key : Int) (size : Nat) (root : ByteArray) (b : ByteArray) (p : Option Addr) (cap : Nat) (path : List ByteArray) (w : World) (h : Box w F 67 [.int .i64 key, .int .i64 size, .string root, .bool false, .bool false]) (he : openE key b = 0) (hp : ¬ 0 < (path.length : Int)) :
    Calls Tryz.prog 34 #[.pointer (some ⟨F, 0, none⟩), .string b, .slice p path.length cap] w fun e w' => e = .returned (.int .i64 0) ∧ But F w w' ∧ Box w' F 67 [.int .i64 key, .int .i64 (openSize key b : Int), .string (openRoot key b), .bool true, .bool false] := by
  have q4 := h.cell 4
  have q0 := h.cell 0
  have hlt := h.lt
  have hop := fun w => ropen_any key b w
  rw [he] at hop
  clear he
  generalize openSize key b = S at *
  generalize openRoot key b = R at *
  go_enter Tryz.func34, Tryz.ntmps34
  go_wp2_with fail
  refine (hop _).mono ?_
  rintro e w1 ⟨rfl, hb⟩
  have hx := (h.grow hb h.lt).alloc (.cells #[.int .i64 (S : Int), .string R] 59)
  have hy := Box.new w1 59 [.int .i64 (S : Int), .string R]
  have hk : Below w.heap.size w (w1.alloc (.cells #[.int .i64 (S : Int), .string R] 59)) := hb.alloc hb.size _
  have hne : ¬ F = w1.heap.size := by have := hb.size; omega
  have q1 := hx.cell 1
  have q3 := hx.cell 3
  have c0 := hy.cell 0
  go_wp2_with fail
  go_region
  clear q1 q3 c0 q4 q0 hop
  change Box (w1.alloc (.cells #[.int .i64 (S : Int), .string R] 59)).drew F _ _ at hx
  change Box (w1.alloc (.cells #[.int .i64 (S : Int), .string R] 59)).drew w1.heap.size _ _ at hy
  replace hk := hk.drew
  have hl1 := hx.lt
  generalize (w1.alloc (.cells #[.int .i64 (S : Int), .string R] 59)).drew = W at *
  have q1 := hx.cell 1
  have q2 := hx.cell 2
  have q3 := hx.cell 3
  have hl2 := hy.lt
  have f1 := hx.frozen 1
  have f2 := hx.frozen 2
  have f3 := hx.frozen 3
  have c0 := hy.cell 0
  have c1 := hy.cell 1
  go_wp2_with fail
  go_ret
  exact ⟨rfl, (((But.of hk).setCell _).setCell _).setCell _, ((hx.set 1 _).set 2 _).set 3 _⟩

set_option maxRecDepth 100000 in
set_option maxHeartbeats 2000000 in
theorem rupdate_zero0 (F : Nat) (key : Int) (size : Nat) (root : ByteArray) (b : ByteArray) (p : Option Addr) (cap : Nat) (path : List ByteArray) (w : World) (h : Box w F 67 [.int .i64 key, .int .i64 size, .string root, .bool true, .bool false]) (he : openE key b = 0) (hz : size = 0) (hp : ¬ 0 < (path.length : Int)) :
    Calls Tryz.prog 34 #[.pointer (some ⟨F, 0, none⟩), .string b, .slice p path.length cap] w fun e w' => e = .returned (.int .i64 0) ∧ But F w w' ∧ Box w' F 67 [.int .i64 key, .int .i64 (openSize key b : Int), .string (openRoot key b), .bool true, .bool false] := by
  subst hz
  have q4 := h.cell 4
  have q0 := h.cell 0
  have hlt := h.lt
  have hop := fun w => ropen_any key b w
  rw [he] at hop
  clear he
  generalize openSize key b = S at *
  generalize openRoot key b = R at *
  go_enter Tryz.func34, Tryz.ntmps34
  go_wp2_with fail
  refine (hop _).mono ?_
  rintro e w1 ⟨rfl, hb⟩
  have hx := (h.grow hb h.lt).alloc (.cells #[.int .i64 (S : Int), .string R] 59)
  have hy := Box.new w1 59 [.int .i64 (S : Int), .string R]
  have hk : Below w.heap.size w (w1.alloc (.cells #[.int .i64 (S : Int), .string R] 59)) := hb.alloc hb.size _
  have hne : ¬ F = w1.heap.size := by have := hb.size; omega
  have q1 := hx.cell 1
  have q3 := hx.cell 3
  have c0 := hy.cell 0
  go_wp2_with fail
  go_region
  clear q1 q3 c0 q4 q0 hop
  change Box (w1.alloc (.cells #[.int .i64 (S : Int), .string R] 59)).drew F _ _ at hx
  change Box (w1.alloc (.cells #[.int .i64 (S : Int), .string R] 59)).drew w1.heap.size _ _ at hy
  replace hk := hk.drew
  have hl1 := hx.lt
  generalize (w1.alloc (.cells #[.int .i64 (S : Int), .string R] 59)).drew = W at *
  have q1 := hx.cell 1
  have q2 := hx.cell 2
  have q3 := hx.cell 3
  have hl2 := hy.lt
  have f1 := hx.frozen 1
  have f2 := hx.frozen 2
  have f3 := hx.frozen 3
  have c0 := hy.cell 0
  have c1 := hy.cell 1
  go_wp2_with fail
  go_ret
  exact ⟨rfl, (((But.of hk).setCell _).setCell _).setCell _, ((hx.set 1 _).set 2 _).set 3 _⟩

set_option maxRecDepth 100000 in
set_option maxHeartbeats 2000000 in
theorem rupdate_ext6 (F : Nat) (key : Int) (size : Nat) (root : ByteArray) (b : ByteArray) (p : Option Addr) (cap : Nat) (path : List ByteArray) (w : World) (h : Box w F 67 [.int .i64 key, .int .i64 size, .string root, .bool true, .bool false]) (he : openE key b = 0)
    (hS : ¬ (openSize key b : Int) < (size : Int)) (hz : ((size : Int) == 0) = false) (hrs : root.size ≤ maxLen) (hR : (openRoot key b).size ≤ maxLen) (hr : Row w p path) (hpc : path.length ≤ cap) (hcm : cap ≤ 9223372036854775807) (hE : (extE size root (openSize key b) (openRoot key b) path == 0) = false) :
    Calls Tryz.prog 34 #[.pointer (some ⟨F, 0, none⟩), .string b, .slice p path.length cap] w fun e w' => e = .returned (.int .i64 6) ∧ Below w.heap.size w w' := by
  have q4 := h.cell 4
  have q0 := h.cell 0
  have hlt := h.lt
  have hop := fun w => ropen_any key b w
  rw [he] at hop
  have HX : Hid (∀ w', Below w.heap.size w w' → Calls Tryz.prog 55 #[.agg #[.int .i64 (size : Int), .string root], .agg #[.int .i64 (openSize key b : Int), .string (openRoot key b)], .slice p path.length cap] w' fun e w'' => e = .returned (.int .i64 (extE size root (openSize key b) (openRoot key b) path)) ∧ Below w'.heap.size w' w'') :=
    fun w' hb => rextended_any size (openSize key b) root (openRoot key b) p cap path w' hrs hR (hr.grow hb (Nat.le_refl _)) hpc hcm
  clear hr hpc hcm hrs hR
  clear he
  generalize extE size root (openSize key b) (openRoot key b) path = E at *
  generalize openSize key b = S at *
  generalize openRoot key b = R at *
  go_enter Tryz.func34, Tryz.ntmps34
  go_wp2_with fail
  refine (hop _).mono ?_
  rintro e w1 ⟨rfl, hb⟩
  have hx := (h.grow hb h.lt).alloc (.cells #[.int .i64 (S : Int), .string R] 59)
  have hy := Box.new w1 59 [.int .i64 (S : Int), .string R]
  have hk : Below w.heap.size w (w1.alloc (.cells #[.int .i64 (S : Int), .string R] 59)) := hb.alloc hb.size _
  have hne : ¬ F = w1.heap.size := by have := hb.size; omega
  have q1 := hx.cell 1
  have q3 := hx.cell 3
  have c0 := hy.cell 0
  go_wp2_with fail
  go_region
  clear q1 q3 c0 q4 q0 hop
  change Box (w1.alloc (.cells #[.int .i64 (S : Int), .string R] 59)).drew F _ _ at hx
  change Box (w1.alloc (.cells #[.int .i64 (S : Int), .string R] 59)).drew w1.heap.size _ _ at hy
  replace hk := hk.drew
  have hl1 := hx.lt
  generalize (w1.alloc (.cells #[.int .i64 (S : Int), .string R] 59)).drew = W at *
  have q1 := hx.cell 1
  have q3 := hx.cell 3
  go_wp2_with fail
  clear q1 q3
  replace hx := hx.drew
  replace hy := hy.drew
  replace hk := hk.drew
  have q1 := hx.cell 1
  have q2 := hx.cell 2
  have c0 := hy.cell 0
  have c1 := hy.cell 1
  go_region_held3 (fun w' => w'.cell? ⟨F, 1, none⟩ = some (.int .i64 (size : Int)) ∧ w'.cell? ⟨F, 2, none⟩ = some (.string root) ∧ w'.cell? ⟨w1.heap.size, 0, none⟩ = some (.int .i64 (S : Int)) ∧ w'.cell? ⟨w1.heap.size, 1, none⟩ = some (.string R)) (go_keep) (first
    | (go_at_call 55; refine (HX.out _ hk).mono ?_; rintro e w2 ⟨rfl, hb2⟩; have hx2 := hx.grow hb2 hx.lt; have hy2 := hy.grow hb2 hy.lt; have r1 := hx2.cell 1; have r2 := hx2.cell 2; have d0 := hy2.cell 0; have d1 := hy2.cell 1))
  all_goals
    go_wp2_with fail
    go_ret
    exact ⟨rfl, hk.trans (hb2.mono hk.size)⟩

set_option maxRecDepth 100000 in
set_option maxHeartbeats 2000000 in
theorem rupdate_ext0 (F : Nat) (key : Int) (size : Nat) (root : ByteArray) (b : ByteArray) (p : Option Addr) (cap : Nat) (path : List ByteArray) (w : World) (h : Box w F 67 [.int .i64 key, .int .i64 size, .string root, .bool true, .bool false]) (he : openE key b = 0)
    (hS : ¬ (openSize key b : Int) < (size : Int)) (hz : ((size : Int) == 0) = false) (hrs : root.size ≤ maxLen) (hR : (openRoot key b).size ≤ maxLen) (hr : Row w p path) (hpc : path.length ≤ cap) (hcm : cap ≤ 9223372036854775807) (hE : extE size root (openSize key b) (openRoot key b) path = 0) :
    Calls Tryz.prog 34 #[.pointer (some ⟨F, 0, none⟩), .string b, .slice p path.length cap] w fun e w' => e = .returned (.int .i64 0) ∧ But F w w' ∧ Box w' F 67 [.int .i64 key, .int .i64 (openSize key b : Int), .string (openRoot key b), .bool true, .bool false] := by
  have q4 := h.cell 4
  have q0 := h.cell 0
  have hlt := h.lt
  have hop := fun w => ropen_any key b w
  rw [he] at hop
  have HX : Hid (∀ w', Below w.heap.size w w' → Calls Tryz.prog 55 #[.agg #[.int .i64 (size : Int), .string root], .agg #[.int .i64 (openSize key b : Int), .string (openRoot key b)], .slice p path.length cap] w' fun e w'' => e = .returned (.int .i64 (extE size root (openSize key b) (openRoot key b) path)) ∧ Below w'.heap.size w' w'') :=
    fun w' hb => rextended_any size (openSize key b) root (openRoot key b) p cap path w' hrs hR (hr.grow hb (Nat.le_refl _)) hpc hcm
  clear hr hpc hcm hrs hR
  clear he
  rw [hE] at HX
  clear hE
  generalize openSize key b = S at *
  generalize openRoot key b = R at *
  go_enter Tryz.func34, Tryz.ntmps34
  go_wp2_with fail
  refine (hop _).mono ?_
  rintro e w1 ⟨rfl, hb⟩
  have hx := (h.grow hb h.lt).alloc (.cells #[.int .i64 (S : Int), .string R] 59)
  have hy := Box.new w1 59 [.int .i64 (S : Int), .string R]
  have hk : Below w.heap.size w (w1.alloc (.cells #[.int .i64 (S : Int), .string R] 59)) := hb.alloc hb.size _
  have hne : ¬ F = w1.heap.size := by have := hb.size; omega
  have q1 := hx.cell 1
  have q3 := hx.cell 3
  have c0 := hy.cell 0
  go_wp2_with fail
  go_region
  clear q1 q3 c0 q4 q0 hop
  change Box (w1.alloc (.cells #[.int .i64 (S : Int), .string R] 59)).drew F _ _ at hx
  change Box (w1.alloc (.cells #[.int .i64 (S : Int), .string R] 59)).drew w1.heap.size _ _ at hy
  replace hk := hk.drew
  have hl1 := hx.lt
  generalize (w1.alloc (.cells #[.int .i64 (S : Int), .string R] 59)).drew = W at *
  have q1 := hx.cell 1
  have q3 := hx.cell 3
  go_wp2_with fail
  clear q1 q3
  replace hx := hx.drew
  replace hy := hy.drew
  replace hk := hk.drew
  have q1 := hx.cell 1
  have q2 := hx.cell 2
  have c0 := hy.cell 0
  have c1 := hy.cell 1
  go_region_held3 (fun w' => w'.cell? ⟨F, 1, none⟩ = some (.int .i64 (size : Int)) ∧ w'.cell? ⟨F, 2, none⟩ = some (.string root) ∧ w'.cell? ⟨w1.heap.size, 0, none⟩ = some (.int .i64 (S : Int)) ∧ w'.cell? ⟨w1.heap.size, 1, none⟩ = some (.string R)) (go_keep) (first
    | (go_at_call 55; refine (HX.out _ hk).mono ?_; rintro e w2 ⟨rfl, hb2⟩; have hx2 := hx.grow hb2 hx.lt; have hy2 := hy.grow hb2 hy.lt; have r1 := hx2.cell 1; have r2 := hx2.cell 2; have d0 := hy2.cell 0; have d1 := hy2.cell 1))
  all_goals
    have hk2 := hk.trans (hb2.mono hk.size)
    have q3 := hx2.cell 3
    have f1 := hx2.frozen 1
    have f2 := hx2.frozen 2
    have f3 := hx2.frozen 3
    have hl2 := hx2.lt
    have hl3 := hy2.lt
    go_wp2_with fail
    go_ret
    exact ⟨rfl, (((But.of hk2).setCell _).setCell _).setCell _, ((hx2.set 1 _).set 2 _).set 3 _⟩

theorem openRoot_len (key : Int) (b : ByteArray) : (openRoot key b).size ≤ maxLen := by
  unfold openRoot
  split
  · unfold Pl.hRoot
    rw [ByteArray.size_extract]
    unfold maxLen
    omega
  · exact Nat.zero_le _

theorem rupdate_any (F : Nat) (key : Int) (size : Nat) (root : ByteArray) (seen closed : Bool) (b : ByteArray) (p : Option Addr) (cap : Nat) (path : List ByteArray) (w : World) (h : Box w F 67 [.int .i64 key, .int .i64 size, .string root, .bool seen, .bool closed])
    (hrs : root.size ≤ maxLen) (hr : Row w p path) (hpc : path.length ≤ cap) (hcm : cap ≤ 9223372036854775807) :
    Calls Tryz.prog 34 #[.pointer (some ⟨F, 0, none⟩), .string b, .slice p path.length cap] w fun e w' => e = .returned (.int .i64 (updE key size root seen closed b path)) ∧
      UpdEnd F 67 [.int .i64 key, .int .i64 size, .string root, .bool seen, .bool closed] [.int .i64 key, .int .i64 (openSize key b : Int), .string (openRoot key b), .bool true, .bool closed] (updE key size root seen closed b path) w w' := by
  cases closed with
  | true =>
    have hE : updE key size root seen true b path = 10 := rfl
    rw [hE]
    refine (rupdate_closed F key size root seen b _ w h).mono ?_
    rintro e w' ⟨rfl, rfl⟩
    exact ⟨rfl, UpdEnd.no h (by omega) (Below.refl _ _)⟩
  | false =>
    by_cases he : openE key b = 0
    · have hE : updE key size root seen false b path = if seen = true ∧ openSize key b < size then 5 else if seen = false ∨ size = 0 then (if path = [] then 0 else 6) else if extE size root (openSize key b) (openRoot key b) path = 0 then 0 else 6 := by
        unfold updE
        rw [if_neg (by simp), if_neg (fun h => h he)]
      have hpl : path = [] ↔ ¬ 0 < (path.length : Int) := by
        rw [← List.length_eq_zero_iff]
        omega
      cases seen with
      | false =>
        rw [if_neg (by simp), if_pos (Or.inl rfl)] at hE
        by_cases hp : path = []
        · rw [if_pos hp] at hE
          rw [hE]
          refine (rupdate_new0 F key size root b p cap path w h he (hpl.1 hp)).mono ?_
          rintro e w' ⟨rfl, hb, hx⟩
          exact ⟨rfl, hb, hx⟩
        · rw [if_neg hp] at hE
          rw [hE]
          refine (rupdate_new6 F key size root b p cap path w h he (Decidable.not_not.1 fun h => hp (hpl.2 h))).mono ?_
          rintro e w' ⟨rfl, hb⟩
          exact ⟨rfl, UpdEnd.no h (by omega) hb⟩
      | true =>
        by_cases hS : openSize key b < size
        · rw [if_pos ⟨rfl, hS⟩] at hE
          rw [hE]
          refine (rupdate_old F key size root b p cap path w h he (by omega)).mono ?_
          rintro e w' ⟨rfl, hb⟩
          exact ⟨rfl, UpdEnd.no h (by omega) hb⟩
        · rw [if_neg (fun h => hS h.2)] at hE
          by_cases hz : size = 0
          · rw [if_pos (Or.inr hz)] at hE
            by_cases hp : path = []
            · rw [if_pos hp] at hE
              rw [hE]
              refine (rupdate_zero0 F key size root b p cap path w h he hz (hpl.1 hp)).mono ?_
              rintro e w' ⟨rfl, hb, hx⟩
              exact ⟨rfl, hb, hx⟩
            · rw [if_neg hp] at hE
              rw [hE]
              refine (rupdate_zero6 F key size root b p cap path w h he hz (Decidable.not_not.1 fun h => hp (hpl.2 h))).mono ?_
              rintro e w' ⟨rfl, hb⟩
              exact ⟨rfl, UpdEnd.no h (by omega) hb⟩
          · rw [if_neg (fun h => h.elim (fun h => by cases h) hz)] at hE
            have hz2 : ((size : Int) == 0) = false := by rw [beq_eq_false_iff_ne]; omega
            by_cases hX : extE size root (openSize key b) (openRoot key b) path = 0
            · rw [if_pos hX] at hE
              rw [hE]
              refine (rupdate_ext0 F key size root b p cap path w h he (by omega) hz2 hrs (openRoot_len _ _) hr hpc hcm hX).mono ?_
              rintro e w' ⟨rfl, hb, hx⟩
              exact ⟨rfl, hb, hx⟩
            · rw [if_neg hX] at hE
              rw [hE]
              refine (rupdate_ext6 F key size root b p cap path w h he (by omega) hz2 hrs (openRoot_len _ _) hr hpc hcm (by rw [beq_eq_false_iff_ne]; exact hX)).mono ?_
              rintro e w' ⟨rfl, hb⟩
              exact ⟨rfl, UpdEnd.no h (by omega) hb⟩
    · have hE : updE key size root seen false b path = openE key b := by
        unfold updE
        rw [if_neg (by simp), if_pos he]
      rw [hE]
      refine (rupdate_open F key size root seen b _ w h he).mono ?_
      rintro e w' ⟨rfl, hb⟩
      exact ⟨rfl, UpdEnd.no h he hb⟩
end Go.Proofs.YtkhnjipjbhcgdaaGreat
