import Derived.Test.YtkhnjipjbhcgdaaGreatWState
/-
  THE WALK of (*treeheadlaw.World).looks.
-/
namespace Go.Proofs.YtkhnjipjbhcgdaaGreat
open Go.RowKit Hp

theorem owns_get {w : World} {B n : Nat} {t : TypeId} {v : Value} {f : Nat → Value} (h : w.ownsRow B t 1 v n ((List.range n).map f)) (i : Nat) (hi : i < n) : ∃ g cap, v = .slice (some ⟨g, 0, none⟩) n cap ∧ n ≤ cap ∧ w.cell? ⟨g, i, none⟩ = some (f i) := by
  rcases h.2 with ⟨_, h0⟩ | ⟨g, cap, cur, rfl, hb, hg, hc, _⟩
  · omega
  · refine ⟨g, cap, rfl, hc, ?_⟩
    have := World.ownsRow.cells h (g := g) rfl i (f i) (range_get f n i hi)
    rwa [add_plain, Nat.zero_add] at this

set_option maxRecDepth 100000 in
set_option maxHeartbeats 4000000 in
theorem looks_any (w : World) (B W0 n m : Nat) (P : Nat → PRec) (v1 v2 v3 : Value) (L1 L3 : Nat → Value) (h : St w B W0 n m (3 * m) P v1 v2 v3 L1 L3) (hm : m ≤ 2000000000000) :
    Calls Tryz.prog 9 #[.pointer (some ⟨W0, 0, none⟩)] w fun e w' => e = .returned (.bool true) ∧ w' = w := by
  have H : Hid (St w B W0 n m (3 * m) P v1 v2 v3 L1 L3) := h
  obtain ⟨p2, k2, e2⟩ := own_slice h.ls
  obtain ⟨p3, k3, e3⟩ := own_slice h.l3
  subst e2 e3
  have c1 := h.box.cell 1
  have c2 := h.box.cell 2
  clear h
  go_enter Tryz.func9, Tryz.ntmps9
  go_wp2_with fail
  go_loop [3] (fun i => ∃ k : Nat, k ≤ m ∧ i = .int .i64 k) (fun i => m - (intOf i).toNat)
  case atStart => exact ⟨0, by omega, rfl⟩
  case round =>
    obtain ⟨k, hk, rfl⟩ := hrel
    by_cases hlt : k < m
    · have HS : Hid _ := strokes_any k w (by omega)
      have H0 : Hid _ := full_any _ _ w (H.out.fl k hlt)
      have H1 : Hid (Calls Tryz.prog 21 #[L3 (3 * k), .string (strokeS k)] w fun e w' => e = .returned (.bool true) ∧ w' = w) := full_any _ _ w (by have := H.out.f3 (3 * k) (by omega); rwa [show 3 * k / 3 = k by omega] at this)
      have H2 : Hid (Calls Tryz.prog 21 #[L3 (3 * k + 1), .string (strokeS k)] w fun e w' => e = .returned (.bool true) ∧ w' = w) := full_any _ _ w (by have := H.out.f3 (3 * k + 1) (by omega); rwa [show (3 * k + 1) / 3 = k by omega] at this)
      have H3 : Hid (Calls Tryz.prog 21 #[L3 (3 * k + 2), .string (strokeS k)] w fun e w' => e = .returned (.bool true) ∧ w' = w) := full_any _ _ w (by have := H.out.f3 (3 * k + 2) (by omega); rwa [show (3 * k + 2) / 3 = k by omega] at this)
      obtain ⟨g2, x2, y2, z2, d0⟩ := owns_get H.out.ls k hlt
      obtain ⟨g3, x3, y3, z3, d1⟩ := owns_get H.out.l3 (3 * k) (by omega)
      obtain ⟨g4, x4, y4, z4, d2⟩ := owns_get H.out.l3 (3 * k + 1) (by omega)
      obtain ⟨g5, x5, y5, z5, d3⟩ := owns_get H.out.l3 (3 * k + 2) (by omega)
      rw [y3] at y4 y5
      simp only [Value.slice.injEq, Option.some.injEq, Addr.mk.injEq, and_true, true_and] at y2 y3 y4 y5
      obtain ⟨rfl, rfl⟩ := y2
      obtain ⟨rfl, rfl⟩ := y3
      obtain ⟨rfl, rfl⟩ := y4
      obtain ⟨rfl, rfl⟩ := y5
      have b1 : (3 : Int) * (k : Int) < 3 * (m : Int) := by omega
      have b2 : (3 : Int) * (k : Int) + 1 < 3 * (m : Int) := by omega
      have b3 : (3 : Int) * (k : Int) + 2 < 3 * (m : Int) := by omega
      clear H
      generalize L1 k = a0 at *
      generalize L3 (3 * k) = a1 at *
      generalize L3 (3 * k + 1) = a2 at *
      generalize L3 (3 * k + 2) = a3 at *
      generalize strokeS k = S at *
      go_wp2_with fail
      refine Calls.mono HS.out ?_
      rintro e w1 ⟨rfl, rfl⟩
      go_wp2_with fail
      refine Calls.mono H0.out ?_
      rintro e w2 ⟨rfl, rfl⟩
      go_wp2_with fail
      refine Calls.mono H1.out ?_
      rintro e w3 ⟨rfl, rfl⟩
      go_wp2_with fail
      refine Calls.mono H2.out ?_
      rintro e w4 ⟨rfl, rfl⟩
      go_wp2_with fail
      refine Calls.mono H3.out ?_
      rintro e w5 ⟨rfl, rfl⟩
      go_wp2_with fail
      go_round
      case rel => exact ⟨k + 1, by omega, by go_num⟩
      case measure => simp [intOf]; omega
    · go_wp2_with fail
      go_ret
      exact ⟨rfl, rfl⟩
end Go.Proofs.YtkhnjipjbhcgdaaGreat

/-
  APPENDS of marks to a list that is full of them; appends to the World's rows.
-/
namespace Go.Proofs.YtkhnjipjbhcgdaaGreat
open Go.RowKit Hp

theorem infoSl : (Tryz.prog.info? 32).map (fun i => (i.zero, i.size, i.bytes)) = some (some (.slice none 0 0), 1, 24) := by kernel_rfl
theorem infoPair : (Tryz.prog.info? 48).map (fun i => (i.zero, i.size, i.bytes)) = some (some (.pointer none), 1, 8) := by kernel_rfl

theorem grow_turn {w w' : World} (h : w.grownBy w' none) : Turn (fun _ => False) w w' := ⟨h.os, h.tape, h.output, h.size, fun k hk _ => h.block k hk (by simp)⟩

/-- What an append of marks leaves: the new list is full, the old one stands, and what was full of the mark still is. -/
structure Marked (w w' : World) (D : Nat) (v v' : Value) (n : Nat) (s : ByteArray) : Prop where
  new : Full w' v' s
  own : Own w' D v (List.replicate n s)
  full : ∀ x, Full w x s → Full w' x s
  grown : w.grownBy w' v.ownBlock

theorem room_get (cur : Array Value) (n m : Nat) (s : ByteArray) (h : n + m ≤ cur.size) (i : Nat) :
    (cur.toList.take n ++ List.replicate m (Value.string s) ++ cur.toList.drop (n + m)).toArray[i]? = if i < n then cur[i]? else if i < n + m then some (.string s) else cur[i]? := by
  rw [List.getElem?_toArray]
  have hl : (cur.toList.take n).length = n := by rw [List.length_take, Array.length_toList]; omega
  by_cases h1 : i < n
  · rw [if_pos h1, List.append_assoc, List.getElem?_append_left (by omega), List.getElem?_take, if_pos h1, Array.getElem?_toList]
  · rw [if_neg h1]
    by_cases h2 : i < n + m
    · rw [if_pos h2, List.getElem?_append_left (by rw [List.length_append, hl, List.length_replicate]; exact h2), List.getElem?_append_right (by omega), List.getElem?_replicate, if_pos (by omega)]
    · rw [if_neg h2, List.getElem?_append_right (by rw [List.length_append, hl, List.length_replicate]; omega), List.getElem?_drop, List.length_append, hl, List.length_replicate, show n + m + (i - (n + m)) = i by omega, Array.getElem?_toList]

theorem own_rep {w : World} {D n : Nat} {v : Value} {s : ByteArray} : Own w D v (List.replicate n s) ↔ w.ownsRow D 9 1 v n (List.replicate n (.string s)) := by
  unfold Own
  rw [List.length_replicate, List.map_replicate]
theorem full_of_owns {w : World} {D n : Nat} {v : Value} {s : ByteArray} (h : w.ownsRow D 9 1 v n (List.replicate n (.string s))) (hn : n ≤ 1000) : Full w v s := by
  rcases h.2 with ⟨rfl, rfl⟩ | ⟨g, cap, cur, rfl, _, hg, _, _, _, ht⟩
  · exact ⟨none, 0, 0, rfl, by omega, Or.inl rfl⟩
  · refine ⟨_, n, cap, rfl, hn, Or.inr ⟨g, cur, rfl, hg, fun i hi => ?_⟩⟩
    have e : (cur.toList.take (n * 1))[i]? = some (.string s) := by rw [ht, List.getElem?_replicate, if_pos hi]
    rw [List.getElem?_take, if_pos (by omega), Array.getElem?_toList] at e
    exact e

theorem run_append_m (w : World) (D : Nat) (ty : TypeId) (v : Value) (n : Nat) (s : ByteArray) (hn : n ≤ 500) (hown : Own w D v (List.replicate n s)) (a : Addr) (m c : Nat) (hm : m ≤ 3) (hm1 : 1 ≤ m)
    (hnews : ∀ j, j < m → w.cell? (a.add j) = some (.string s)) :
    ∃ v' w', (Builtin.append_ #[32, 32] ty #[v, .slice (some a) m c]).run Tryz.prog w = .ok v' w' ∧ Marked w w' D v v' n s := by
  obtain ⟨i0, hinf, hz0, hz1, hz2⟩ := info_parts infoStr
  have hl : (List.replicate m (Value.string s)).length = m * 1 := by simp
  have hnw : ∀ j u, (List.replicate m (Value.string s))[j]? = some u → w.cell? (a.add j) = some u := by
    intro j u hu
    rw [List.getElem?_replicate] at hu
    split at hu
    · rw [hnews j ‹_›]; exact hu
    · cases hu
  have h1 : ∀ u ∈ List.replicate m (Value.string s), u.oneCell' = true := by
    intro u hu
    rw [List.eq_of_mem_replicate hu]
    rfl
  have hO := own_rep.1 hown
  have h63 : n + m ≤ maxLen := by unfold maxLen; omega
  have fresh : ∀ v' w', (Builtin.append_ #[32, 32] ty #[v, .slice (some a) m c]).run Tryz.prog w = .ok v' w' → w'.ownsRow w.heap.size 9 1 v' (n + m) (List.replicate n (.string s) ++ List.replicate m (.string s)) → w.grownBy w' none →
      ∃ v' w', (Builtin.append_ #[32, 32] ty #[v, .slice (some a) m c]).run Tryz.prog w = .ok v' w' ∧ Marked w w' D v v' n s := by
    intro v' w' hr ho hg
    rw [List.replicate_append_replicate] at ho
    exact ⟨v', w', hr, full_of_owns ho (by omega), hown.turn (grow_turn hg) (fun _ _ h => h), fun x hx => hx.turn (grow_turn hg) (fun _ _ _ h => h), ⟨hg.os, hg.tape, hg.output, hg.size, fun k hk _ => hg.block k hk (by simp)⟩⟩
  rcases hO.2 with ⟨rfl, rfl⟩ | ⟨g, cap, cur, rfl, hbg, hg, hnc, hcm, hcs, htake⟩
  · obtain ⟨v2, w2, hrun2, q1, q2, _⟩ := run_append_own (P := Tryz.prog) w w.heap.size 32 ty 9 i0 (.string ByteArray.empty) 1 16 Tryz.underlying32 hinf hz0 hz1 hz2 rfl (by decide) (.slice none 0 0) 0 [] (World.ownsRow_nil w _ _ _) a m c _ hl hnw h1 h63 (by omega) (Nat.le_refl _)
    exact fresh v2 w2 hrun2 q1 q2
  · by_cases hroom : n + m ≤ cap
    · have hfit : n * i0.size + (List.replicate m (Value.string s)).length ≤ cur.size := by rw [hl, hcs, hz1]; omega
      have hr := run_append_room (P := Tryz.prog) w 32 ty 9 i0 Tryz.underlying32 hinf g n cap cur hg a m c (List.replicate m (Value.string s)) (by rw [hz1]; exact hl) hnw h1 hroom hfit
      rw [hz1, hl, Nat.mul_one, Nat.mul_one] at hr
      have hget := room_get cur n m s (by omega)
      generalize hcur : (cur.toList.take n ++ List.replicate m (Value.string s) ++ cur.toList.drop (n + m)).toArray = cur' at hr hget
      have hsz : cur'.size = cur.size := by
        rw [← hcur]
        simp
        omega
      have hh := setRow_heap w g cur cur' 9 _ hg
      have hold : ∀ i : Nat, cur[i]? = some (Value.string s) → cur'[i]? = some (Value.string s) := by
        intro i hi
        rw [hget i]
        split
        · exact hi
        · split
          · rfl
          · exact hi
      have hall : ∀ i, i < n + m → cur'[i]? = some (.string s) := by
        intro i hi
        rw [hget i]
        split
        · have e : (cur.toList.take (n * 1))[i]? = some (.string s) := by rw [htake, List.getElem?_replicate, if_pos ‹_›]
          rw [List.getElem?_take, if_pos (by omega), Array.getElem?_toList] at e
          exact e
        · rfl
      refine ⟨_, _, hr, ⟨_, n + m, cap, rfl, by omega, Or.inr ⟨g, cur', rfl, hh, hall⟩⟩, own_rep.2 ⟨hO.1, Or.inr ⟨g, cap, cur', rfl, hbg, hh, hnc, hcm, by rw [hsz, hcs], ?_⟩⟩, ?_, ⟨rfl, rfl, rfl, by simp, fun k _ hk => setRow_other w g k _ (fun e => hk (by simp [Value.ownBlock, e]))⟩⟩
      · apply List.ext_getElem?
        intro i
        rw [List.getElem?_take, Nat.mul_one, List.getElem?_replicate]
        by_cases hi : i < n
        · rw [if_pos hi, if_pos hi, Array.getElem?_toList]
          exact hall i (by omega)
        · rw [if_neg hi, if_neg hi]
      · rintro x ⟨p, nx, cx, rfl, hnx, h0 | ⟨b, cb, hp, hb, hc⟩⟩
        · exact ⟨p, nx, cx, rfl, hnx, Or.inl h0⟩
        · by_cases hbg : b = g
          · subst hbg
            rw [hg] at hb
            injection hb with hb
            injection hb with hb
            subst hb
            exact ⟨p, nx, cx, rfl, hnx, Or.inr ⟨b, cur', hp, hh, fun i hi => hold i (hc i hi)⟩⟩
          · exact ⟨p, nx, cx, rfl, hnx, Or.inr ⟨b, cb, hp, by rw [setRow_other w g b _ hbg]; exact hb, hc⟩⟩
    · have holds : ∀ j u, (List.replicate n (Value.string s))[j]? = some u → w.cell? ((⟨g, 0, none⟩ : Addr).add j) = some u := World.ownsRow.cells hO (g := g) rfl
      obtain ⟨v2, w2, hrun2, q1, q2⟩ := run_append_arg_grows (P := Tryz.prog) w 32 ty 9 i0 (.string ByteArray.empty) 1 16 Tryz.underlying32 hinf hz0 hz1 hz2 rfl (by decide) ⟨g, 0, none⟩ n cap _ hO.1 holds a m c _ hl hnw (by omega) h63 (by omega)
      exact fresh v2 w2 hrun2 q1 q2

theorem wpList_append_m {ops : Array Oper} {rest : List Oper} {o : Oper} {a : Act} {Q : Exit → Act → World → Prop} (w : World) (hgd : o.guard = none) (p q : Operand)
    (ho : o.op = .call { callee := .builtin .append, args := #[p, q], argTypes := #[32, 32] })
    (D : Nat) (v : Value) (n : Nat) (s : ByteArray) (hn : n ≤ 500) (hp : a.eval p = v) (hown : Own w D v (List.replicate n s)) (ad : Addr) (m c : Nat) (hq : a.eval q = .slice (some ad) m c) (hm : m ≤ 3) (hm1 : 1 ≤ m)
    (hnews : ∀ j, j < m → w.cell? (ad.add j) = some (.string s)) (h : ∀ v' w', Marked w w' D v v' n s → wpList Tryz.prog ops Q rest (a.put o.dst v') w') : wpList Tryz.prog ops Q (o :: rest) a w :=
  wpList_plain hgd fun _ hK => by
    obtain ⟨v', w', hr, hM⟩ := run_append_m w D o.type v n s hn hown ad m c hm hm1 hnews
    unfold Oper.wp execOp
    simp only [ho, resolve, invoke, builtin, Sem.run_bind, Sem.run_pure, Result.andThen_ok, List.map_toArray, List.map_cons, List.map_nil, hp, hq, hr]
    exact hK _ _ (h v' w' hM)

theorem wpList_append_mine {P : Program} {ops : Array Oper} {rest : List Oper} {o : Oper} {a : Act} {Q : Exit → Act → World → Prop} (w : World) (hgd : o.guard = none) (s x : Operand) (t : TypeId)
    (ho : o.op = .call { callee := .builtin .append, args := #[s, x], argTypes := #[t, t] })
    (base : Nat) (e : TypeId) (i : TypeInfo) (z : Value) (size bytes : Nat) (ht : P.underlying t = some (.slice e)) (hi : P.info? e = some i) (hz : i.zero = some z)
    (hsize : i.size = size) (hby : i.bytes = bytes) (hzs : z.cells.size = size) (hsz : 0 < size)
    (v : Value) (n : Nat) (xs : List Value) (hs : a.eval s = v) (hown : w.ownsRow base e size v n xs)
    (ad : Addr) (m c : Nat) (news : List Value) (hx : a.eval x = .slice (some ad) m c) (hl : news.length = m * size) (hnews : ∀ j u, news[j]? = some u → w.cell? (ad.add j) = some u) (h1 : ∀ u ∈ news, u.oneCell' = true)
    (h63 : n + m ≤ maxLen) (hbytes : (n + m) * bytes ≤ 140737488355328) (hbase : base ≤ w.heap.size)
    (h : ∀ v' w', w'.ownsRow base e size v' (n + m) (xs ++ news) → w.grownBy w' v.ownBlock → (∀ k, some k = v'.ownBlock → some k = v.ownBlock ∨ w.heap.size ≤ k) → wpList P ops Q rest (a.put o.dst v') w') : wpList P ops Q (o :: rest) a w :=
  wpList_plain hgd fun _ hK => by
    obtain ⟨v', w', hr, h2, h3, h4⟩ := run_append_mine (P := P) w base t o.type e i z size bytes ht hi hz hsize hby hzs hsz v n xs hown ad m c news hl hnews h1 h63 hbytes hbase
    unfold Oper.wp execOp
    simp only [ho, resolve, invoke, builtin, Sem.run_bind, Sem.run_pure, Result.andThen_ok, List.map_toArray, List.map_cons, List.map_nil, hs, hx, hr]
    exact hK _ _ (h v' w' h2 h3 h4)
end Go.Proofs.YtkhnjipjbhcgdaaGreat
