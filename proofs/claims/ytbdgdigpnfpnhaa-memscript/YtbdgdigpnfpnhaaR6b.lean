/-
  The document's memtable: Get, Scan and Cost.
-/
import Derived.Test.YtbdgdigpnfpnhaaKP
import Derived.Test.YtbdgdigpnfpnhaaKR
import Derived.Deep.RegionHeld3
namespace Go.Proofs.Ytbdgdigpnfpnhaa.Q
open Go.RowKit

section
variable {base : Nat} {w : World} {b : Nat} {hv lv tv : Value} {hs : List Int} {es : List Mm.Ent} {ts : List Int}

set_option maxRecDepth 100000 in
set_option maxHeartbeats 2000000 in
theorem rget_any (h : RtAt base w b hv lv tv hs es ts) (hn : es.length ≤ 100000) (k : List UInt8) (q : Int) : Calls Try.prog 49 #[.pointer (some ⟨b, 0, none⟩), str k, .int .i64 q] w fun e w' => e = .returned (foundV (es.find? (visP k q))) ∧ Below w.heap.size w w' := by
  obtain ⟨W, hW⟩ : ∃ W, W = w.alloc (.cells #[.string ⟨#[]⟩, .string ⟨#[]⟩, .int .i64 0, .bool false] 38) := ⟨_, rfl⟩
  have b0 : Below w.heap.size w W := by rw [hW]; exact (Below.refl _ _).alloc (Nat.le_refl _) _
  have y0 : W.heap[w.heap.size]? = some (eO ⟨[], [], 0, false⟩) := by rw [hW]; exact World.alloc_heap_new w _
  have H := h.later b0
  obtain ⟨c0, c1, c2, c3⟩ := H.cell
  obtain ⟨la, lc, e⟩ := row_shape h.ll
  rw [e] at c2
  have RN := hide (rnone_any W b c0)
  have VS : Hid (Calls Try.prog 73 #[.slice la es.length lc, str k, .int .i64 q] W fun e w' => e = .returned (foundV (es.find? (visP k q))) ∧ Below W.heap.size W w') := by
    have := EntsAt.own H.ll
    rw [e] at this
    exact rvis_any W la lc es.length es this rfl (by omega) k q
  have FIN : Hid (∀ (w1 : World) (e : Mm.Ent), Below W.heap.size W w1 → ((((w1.setCell ⟨w.heap.size, 0, none⟩ (str e.key)).setCell ⟨w.heap.size, 1, none⟩ (str e.value)).setCell ⟨w.heap.size, 2, none⟩ (.int .i64 e.seq)).setCell ⟨w.heap.size, 3, none⟩ (.bool e.del)).heap[w.heap.size]? = some (eO e) ∧ Below w.heap.size w ((((w1.setCell ⟨w.heap.size, 0, none⟩ (str e.key)).setCell ⟨w.heap.size, 1, none⟩ (str e.value)).setCell ⟨w.heap.size, 2, none⟩ (.int .i64 e.seq)).setCell ⟨w.heap.size, 3, none⟩ (.bool e.del)) ∧ w1.heap[w.heap.size]? = some (eO ⟨[], [], 0, false⟩)) := fun w1 e b1 => by
    have y1 := keepB b1 y0
    have B1 := b0.trans (b1.mono b0.size)
    have m5 : ∀ (v : World) (i : Nat) (u : Value), Moved (fun j => j = w.heap.size) v (v.setCell ⟨w.heap.size, i, none⟩ u) := fun v i u => Moved.setCell (S := fun j => j = w.heap.size) (Moved.refl _ v) (p := ⟨w.heap.size, i, none⟩) (fun _ => rfl) u
    have m6 := (((m5 w1 0 (str e.key)).trans (m5 _ 1 (str e.value)) (fun _ _ h => h)).trans (m5 _ 2 (.int .i64 e.seq)) (fun _ _ h => h)).trans (m5 _ 3 (.bool e.del)) (fun _ _ h => h)
    exact ⟨(Joins.block_setCell (Joins.block_setCell (Joins.block_setCell (Joins.block_setCell y1 _) _) _) _).trans rfl, B1.trans (m6.under B1.size (fun i hi => by omega)), y1⟩
  have HW := hide hW
  generalize es.find? (visP k q) = o at *
  obtain ⟨n, hN⟩ : ∃ n, n = es.length := ⟨_, rfl⟩
  rw [← hN] at c2 VS
  clear h H e hW b0 y0 c1 c3 hN hn
  rw [HW.out] at RN VS c0 c2
  cases o with
  | none =>
    go_enter Try.func49, Try.ntmps49
    go_wp2_with (first
      | (go_at_call 43; refine RN.out.mono ?_; rintro e w1 ⟨rfl, rfl⟩; clear RN)
      | (go_at_call 73; refine VS.out.mono ?_; rintro e w2 ⟨rfl, b2⟩; rw [← HW.out] at b2; obtain ⟨F1, F2, y2⟩ := FIN.out w2 ⟨[], [], 0, false⟩ b2; obtain ⟨p0, p1, p2, p3, f0, f1, f2, f3⟩ := slot4 y2; clear VS))
    obtain ⟨t0, t1, t2, t3, _⟩ := slot4 F1
    refine bodyPost_ret (v := foundV none) (by simp [results, Try.results49, go_sem, t0, t1, t2, t3]) rfl ?_
    exact ⟨rfl, F2⟩
  | some y =>
    obtain ⟨K, V, Q, D⟩ := y
    go_enter Try.func49, Try.ntmps49
    go_wp2_with (first
      | (go_at_call 43; refine RN.out.mono ?_; rintro e w1 ⟨rfl, rfl⟩; clear RN)
      | (go_at_call 73; refine VS.out.mono ?_; rintro e w2 ⟨rfl, b2⟩; rw [← HW.out] at b2; obtain ⟨F1, F2, y2⟩ := FIN.out w2 ⟨K, V, Q, D⟩ b2; obtain ⟨p0, p1, p2, p3, f0, f1, f2, f3⟩ := slot4 y2; clear VS))
    obtain ⟨t0, t1, t2, t3, _⟩ := slot4 F1
    refine bodyPost_ret (v := foundV (some ⟨K, V, Q, D⟩)) (by simp [results, Try.results49, go_sem, t0, t1, t2, t3]) rfl ?_
    exact ⟨rfl, F2⟩

set_option maxRecDepth 100000 in
set_option maxHeartbeats 2000000 in
theorem rtscan_any (h : RtAt base w b hv lv tv hs es ts) (hn : es.length ≤ 100000) (f t : List UInt8) (q : Int) : Calls Try.prog 52 #[.pointer (some ⟨b, 0, none⟩), .agg #[str f, str t], .int .i64 q] w fun e w' => ∃ v, e = .returned v ∧ w'.ownsRow w.heap.size 38 4 v (Mm.told q (Mm.spanL f t es)).length (ecs (Mm.told q (Mm.spanL f t es))) ∧ Below w.heap.size w w' := by
  obtain ⟨W, hW⟩ : ∃ W, W = w.alloc (.cells #[str f, str t] 46) := ⟨_, rfl⟩
  have b0 : Below w.heap.size w W := by rw [hW]; exact (Below.refl _ _).alloc (Nat.le_refl _) _
  have y0 : ∀ k, W.cell? ⟨w.heap.size, k, none⟩ = (#[str f, str t] : Array Value)[k]? := fun k => by rw [hW]; exact Joins.cell_of_block (World.alloc_heap_new w _) k
  have H := h.later b0
  obtain ⟨la, lc, e⟩ := row_shape h.ll
  obtain ⟨n, hN⟩ : ∃ n, n = es.length := ⟨_, rfl⟩
  have KC : Hid (∀ wx, Below W.heap.size W wx → wx.cell? ⟨b, 2, none⟩ = some (.slice la n lc) ∧ wx.cell? ⟨w.heap.size, 0, none⟩ = some (str f) ∧ wx.cell? ⟨w.heap.size, 1, none⟩ = some (str t)) := fun wx hb => by
    have := (H.later hb).cell
    rw [hN, ← e]
    exact ⟨this.2.2.1, keepC hb (y0 0), keepC hb (y0 1)⟩
  have c0 := H.cell.1
  have RN := hide (rnone_any W b c0)
  have SP : Hid (∀ wx, Below W.heap.size W wx → Calls Try.prog 74 #[.slice la n lc, .agg #[str f, str t], .int .i64 q] wx fun e w' => ∃ v, e = .returned v ∧ w'.ownsRow wx.heap.size 38 4 v (Mm.told q (Mm.spanL f t es)).length (ecs (Mm.told q (Mm.spanL f t es))) ∧ Below wx.heap.size wx w') := fun wx hb => by
    have := EntsAt.own (H.later hb).ll
    rw [e] at this
    rw [hN]
    exact rspan_any wx la lc es.length es this rfl hn f t q
  have HB := hide b0
  have HW := hide hW
  clear h H e hW b0 y0 hN hn
  generalize Mm.told q (Mm.spanL f t es) = T at *
  have P1 := KC.out W.drew (Below.refl _ _).drew
  rw [HW.out] at RN c0
  go_enter Try.func52, Try.ntmps52
  go_wp2_with (first
    | (go_at_call 43; refine RN.out.mono ?_; rintro e w1 ⟨rfl, rfl⟩; clear RN))
  rw [← HW.out]
  go_region_held3 (fun wx => wx.cell? ⟨b, 2, none⟩ = some (.slice la n lc) ∧ wx.cell? ⟨w.heap.size, 0, none⟩ = some (str f) ∧ wx.cell? ⟨w.heap.size, 1, none⟩ = some (str t))
    (first | exact P1 | exact P2)
    (first
      | (go_at_call 74; refine (SP.out _ (Below.refl _ _).drew).mono ?_; rintro r w8 ⟨v, rfl, o8, b8⟩; have D8 := (Below.refl W.heap.size W).drew.trans b8; have P2 := KC.out _ D8))
  go_wp2_with (fail)
  go_ret
  exact ⟨v, rfl, own_lift o8 HB.out.size, HB.out.trans (D8.mono HB.out.size)⟩

theorem go_step {es : List Mm.Ent} {goal : Mm.Ent} {pl : List Nat} {j : Nat} (h : j < pl.length) (n : Nat) (a : Int) : Mm.laneGo es goal (pl.drop j) n a = if (pl[j] : Int) ≤ a then Mm.laneGo es goal (pl.drop (j + 1)) n a else if Mm.ahead (es.getD pl[j] goal) goal then Mm.laneGo es goal (pl.drop (j + 1)) (n + 1) pl[j] else (n + 1, a) := by
  rw [List.drop_eq_getElem_cons h, Mm.laneGo]

set_option maxRecDepth 100000 in
set_option maxHeartbeats 8000000 in
theorem rcost_any (h : RtAt base w b hv lv tv hs es ts) (hn : es.length ≤ 100000) (k : List UInt8) (q : Int) : Calls Try.prog 51 #[.pointer (some ⟨b, 0, none⟩), str k, .int .i64 q] w fun e w' => e = .returned (.int .i64 (Mm.costR es ts ⟨k, [], q, false⟩ 12 0 (-1) : Int)) ∧ Below w.heap.size w w' := by
  obtain ⟨W, hW⟩ : ∃ W, W = w.alloc (.cells #[str k, .string ⟨#[]⟩, .int .i64 q, .bool false] 38) := ⟨_, rfl⟩
  have b0 : Below w.heap.size w W := by rw [hW]; exact (Below.refl _ _).alloc (Nat.le_refl _) _
  have y0 : ∀ i, W.cell? ⟨w.heap.size, i, none⟩ = (#[str k, str [], .int .i64 q, .bool false] : Array Value)[i]? := fun i => by rw [hW]; exact Joins.cell_of_block (World.alloc_heap_new w _) i
  have H := h.later b0
  have RN := hide (rnone_any w b h.cell.1)
  obtain ⟨la, lc, e⟩ := row_shape h.ll
  obtain ⟨n, hN⟩ : ∃ n, n = es.length := ⟨_, rfl⟩
  obtain ⟨goal, hgoal⟩ : ∃ goal : Mm.Ent, goal = ⟨k, [], q, false⟩ := ⟨_, rfl⟩
  have KC : Hid (∀ wx, Below W.heap.size W wx → wx.cell? ⟨b, 2, none⟩ = some (.slice la n lc) ∧ (wx.cell? ⟨w.heap.size, 0, none⟩ = some (str k) ∧ wx.cell? ⟨w.heap.size, 1, none⟩ = some (str []) ∧ wx.cell? ⟨w.heap.size, 2, none⟩ = some (.int .i64 q) ∧ wx.cell? ⟨w.heap.size, 3, none⟩ = some (.bool false))) := fun wx hb => by
    have := (H.later hb).cell
    rw [hN, ← e]
    exact ⟨this.2.2.1, keepC hb (y0 0), keepC hb (y0 1), keepC hb (y0 2), keepC hb (y0 3)⟩
  have EA : Hid (EntsAt W (.slice la n lc) es) := by
    have := EntsAt.own H.ll
    rw [e, ← hN] at this
    exact this
  have LN : Hid (∀ wx (m : Nat), m < 12 → Below W.heap.size W wx → Calls Try.prog 48 #[.pointer (some ⟨b, 0, none⟩), .int .i64 ((m : Int) + 1)] wx fun e w' => ∃ a c, e = .returned (.slice a (Mm.plR ((m : Int) + 1) 0 ts).length c) ∧ Hid (IntsAt w' (.slice a (Mm.plR ((m : Int) + 1) 0 ts).length c) ((Mm.plR ((m : Int) + 1) 0 ts).map fun (x : Nat) => (x : Int))) ∧ Below wx.heap.size wx w') := fun wx m hm hb => by
    have := rlane_any (H.later hb) hn ((m : Int) + 1)
    rw [if_pos ⟨by omega, by omega⟩] at this
    refine this.mono ?_
    rintro e w' ⟨v, rfl, o, bb⟩
    obtain ⟨a, c, rfl⟩ := row_shape o
    have o' := o
    rw [← List.length_map (f := fun (x : Nat) => (x : Int))] at o'
    have := ints_own o'
    rw [List.length_map] at this
    exact ⟨a, c, rfl, this, bb⟩
  have HN : Hid (n = es.length) := hN
  have HT : Hid (ts.length = n) := by show _ = _; rw [hN]; exact h.len
  rw [← hN] at hn
  have HB := hide b0
  have HW := hide hW
  have HG := hide hgoal
  rw [← hgoal]
  clear h H e hW b0 y0 hN hgoal
  go_enter Try.func51, Try.ntmps51
  go_wp2_with (first
    | (go_at_call 43; refine RN.out.mono ?_; rintro e w1 ⟨rfl, rfl⟩; clear RN))
  rw [← HW.out]
  obtain ⟨B, hB⟩ : ∃ B, B = w1.heap.size := ⟨_, rfl⟩
  rw [← hB] at KC ⊢
  have HBB := hide hB
  clear HW hB
  go_loopw [8, 9, 10] (fun nv av hv' wr => ∃ (m nn : Nat) (a : Int), m ≤ 12 ∧ nn ≤ (12 - m) * 100001 ∧ -1 ≤ a ∧ a < n + 1 ∧ nv = .int .i64 (nn : Int) ∧ av = .int .i64 a ∧ hv' = .int .i64 (m : Int) ∧ Hid (Mm.costR es ts goal m nn a = Mm.costR es ts goal 12 0 (-1)) ∧ Below W.heap.size W wr) (fun _ _ hv' _ => (intOf hv').toNat)
  case atStart => exact ⟨12, 0, -1, Nat.le_refl _, Nat.zero_le _, by omega, by omega, rfl, rfl, rfl, rfl, Below.refl _ _⟩
  case round =>
    obtain ⟨m, nn, a, hm, hnn, ha1, ha2, rfl, rfl, rfl, HC, bx⟩ := hrel
    cases m with
    | zero =>
      have z1 : ¬ ((0 : Nat) : Int) ≥ 1 := by omega
      have HE : Hid (nn = Mm.costR es ts goal 12 0 (-1)) := HC.out
      clear HC
      go_wp2_with (fail)
      go_ret
      rw [HE.out]
      exact ⟨rfl, HB.out.trans (bx.mono HB.out.size)⟩
    | succ m =>
      have em : ((m + 1 : Nat) : Int) = (m : Int) + 1 := by omega
      rw [em]
      have z1 : (m : Int) + 1 ≥ 1 := by omega
      have z2 : IntKind.i64.wrap ((m : Int) + 1 - 1) = (m : Int) := by rw [IntKind.wrap_i64]; omega
      have z3 : IntKind.i64.wrap (m : Int) = (m : Int) := by rw [IntKind.wrap_i64]; omega
      have LM := hide (LN.out wr m (by omega) bx)
      have HC' : Hid (Mm.costR es ts goal m (Mm.laneGo es goal (Mm.plR ((m : Int) + 1) 0 ts) nn a).1 (Mm.laneGo es goal (Mm.plR ((m : Int) + 1) 0 ts) nn a).2 = Mm.costR es ts goal 12 0 (-1)) := by
        have := HC.out
        rw [Mm.costR] at this
        exact this
      have PL : Hid ((Mm.plR ((m : Int) + 1) 0 ts).length ≤ n) := by
        show _ ≤ _
        rw [← HT.out]
        exact Mm.plR_len _ _ 0
      have PM : Hid (∀ p ∈ Mm.plR ((m : Int) + 1) 0 ts, p < n) := fun p hp => by
        have := (Mm.plR_lt _ _ 0 p hp).2
        have := HT.out
        omega
      generalize Mm.plR ((m : Int) + 1) 0 ts = pl at *
      obtain ⟨L, hL⟩ : ∃ L, L = pl.length := ⟨_, rfl⟩
      rw [← hL] at LM PL
      have HL := hide hL
      clear hL HC LN
      go_wp2_with (first
        | (go_at_call 48; refine LM.out.mono ?_; rintro e w2 ⟨pa, pc, rfl, IP, b2⟩; have B2 := bx.trans (b2.mono bx.size); clear LM))
      clear bx b2
      go_loopw [8, 9, 12] (fun nv av iv wr2 => ∃ (j n2 : Nat) (a2 : Int), j ≤ L ∧ n2 ≤ nn + j ∧ -1 ≤ a2 ∧ a2 < n + 1 ∧ nv = .int .i64 (n2 : Int) ∧ av = .int .i64 a2 ∧ iv = .int .i64 (j : Int) ∧ Hid (Mm.laneGo es goal (pl.drop j) n2 a2 = Mm.laneGo es goal pl nn a) ∧ Below w2.heap.size w2 wr2) (fun _ _ iv _ => L - (intOf iv).toNat)
      case atStart => exact ⟨0, nn, a, Nat.zero_le _, by omega, ha1, ha2, rfl, rfl, rfl, rfl, Below.refl _ _⟩
      case round =>
        obtain ⟨j, n2, a2, hj, hn2, hb1, hb2, rfl, rfl, rfl, HG2, b3⟩ := hrel
        have B3 := B2.trans (b3.mono B2.size)
        have pl100 := PL.out
        by_cases hlt : j < L
        · have jl : j < pl.length := by have := HL.out; omega
          obtain ⟨pb, po, rfl⟩ := ints_some IP.out (by simp; omega)
          have jl' : j < (pl.map fun (x : Nat) => (x : Int)).length := by simpa using jl
          have ip := ints_at (IP.out.later b3) j jl'
          have IPC : Hid (∀ wx, Below w2.heap.size w2 wx → wx.cell? ⟨pb, po + j, none⟩ = some (.int .i64 (pl[j] : Int))) := fun wx hb => by
            have := ints_at (IP.out.later hb) j jl'
            rw [List.getElem_map] at this
            exact this
          rw [List.getElem_map] at ip
          have pln := PM.out _ (List.getElem_mem jl)
          have GS := hide (go_step (es := es) (goal := goal) jl n2 a2)
          rw [HG2.out] at GS
          have j1 : (j : Int) < (L : Int) := by omega
          have j0 : (0 : Int) ≤ (j : Int) := by omega
          have hpe : pl[j] < es.length := by have := HN.out; omega
          have ED : Hid (es.getD pl[j] goal = es[pl[j]]) := by show _ = _; simp [List.getD, hpe]
          rw [ED.out] at GS
          obtain ⟨eb, eo, rfl⟩ := EA.out.some (by omega)
          have EC : Hid (∀ wx, Below W.heap.size W wx → wx.cell? ⟨eb, eo + pl[j] * 4, none⟩ = some (str es[pl[j]].key) ∧ wx.cell? ⟨eb, eo + pl[j] * 4 + 1, none⟩ = some (str es[pl[j]].value) ∧ wx.cell? ⟨eb, eo + pl[j] * 4 + 2, none⟩ = some (.int .i64 es[pl[j]].seq) ∧ wx.cell? ⟨eb, eo + pl[j] * 4 + 3, none⟩ = some (.bool es[pl[j]].del)) := fun wx hb => (EA.out.later hb).cells _ hpe
          have AH : Hid (∀ wx, Calls Try.prog 14 #[entV es[pl[j]], entV goal] wx fun e w' => e = .returned (.bool (Mm.ahead es[pl[j]] goal)) ∧ Below wx.heap.size wx w') := fun wx => rahead_any wx _ _
          clear ED
          generalize es[pl[j]] = X at *
          generalize pl[j] = p at *
          by_cases hpa : (p : Int) ≤ a2
          · rw [if_pos hpa] at GS
            have GS' : Hid (Mm.laneGo es goal (pl.drop (j + 1)) n2 a2 = Mm.laneGo es goal pl nn a) := GS.out.symm
            clear GS AH EC hpe jl jl' HG2 IPC
            go_wp2_with (fail)
            exact ⟨⟨j + 1, n2, a2, by omega, by omega, hb1, hb2, rfl, rfl, by go_num, GS', b3⟩, by simp [intOf]; omega⟩
          · rw [if_neg hpa] at GS
            have w1' : IntKind.i64.wrap ((n2 : Int) + 1) = (n2 : Int) + 1 := by rw [IntKind.wrap_i64]; omega
            have p0 : (0 : Int) ≤ (p : Int) := by omega
            have p1 : (p : Int) < (n : Int) := by omega
            obtain ⟨Q, hQ⟩ : ∃ Q, Q = Mm.ahead X goal := ⟨_, rfl⟩
            rw [← hQ] at GS AH
            have KK : Hid (∀ wx, Below w2.heap.size w2 wx → (wx.cell? ⟨b, 2, none⟩ = some (.slice (some ⟨eb, eo, none⟩) n lc) ∧ (wx.cell? ⟨B, 0, none⟩ = some (str k) ∧ wx.cell? ⟨B, 1, none⟩ = some (str []) ∧ wx.cell? ⟨B, 2, none⟩ = some (.int .i64 q) ∧ wx.cell? ⟨B, 3, none⟩ = some (.bool false))) ∧ wx.cell? ⟨pb, po + j, none⟩ = some (.int .i64 (p : Int)) ∧ (wx.cell? ⟨eb, eo + p * 4, none⟩ = some (str X.key) ∧ wx.cell? ⟨eb, eo + p * 4 + 1, none⟩ = some (str X.value) ∧ wx.cell? ⟨eb, eo + p * 4 + 2, none⟩ = some (.int .i64 X.seq) ∧ wx.cell? ⟨eb, eo + p * 4 + 3, none⟩ = some (.bool X.del))) := fun wx hb => ⟨KC.out wx (B2.trans (hb.mono B2.size)), IPC.out wx hb, EC.out wx (B2.trans (hb.mono B2.size))⟩
            have P1 := KK.out wr.drew b3.drew
            have HGo := HG.out
            clear hQ EC hpe jl jl' HG2 IPC
            rw [HGo] at AH
            cases Q
            · have GS' : Hid ((n2 + 1, a2) = Mm.laneGo es goal pl nn a) := GS.out.symm
              have HCC : Hid (Mm.costR es ts goal m (n2 + 1) a2 = Mm.costR es ts goal 12 0 (-1)) := by
                have := HC'.out
                rw [← GS'.out] at this
                exact this
              clear GS GS' HC' HGo
              go_wp2_with (fail)
              go_region_held3 (fun wx => (wx.cell? ⟨b, 2, none⟩ = some (.slice (some ⟨eb, eo, none⟩) n lc) ∧ (wx.cell? ⟨B, 0, none⟩ = some (str k) ∧ wx.cell? ⟨B, 1, none⟩ = some (str []) ∧ wx.cell? ⟨B, 2, none⟩ = some (.int .i64 q) ∧ wx.cell? ⟨B, 3, none⟩ = some (.bool false))) ∧ wx.cell? ⟨pb, po + j, none⟩ = some (.int .i64 (p : Int)) ∧ (wx.cell? ⟨eb, eo + p * 4, none⟩ = some (str X.key) ∧ wx.cell? ⟨eb, eo + p * 4 + 1, none⟩ = some (str X.value) ∧ wx.cell? ⟨eb, eo + p * 4 + 2, none⟩ = some (.int .i64 X.seq) ∧ wx.cell? ⟨eb, eo + p * 4 + 3, none⟩ = some (.bool X.del)))
                (first | exact P1 | exact P2)
                (first
                  | (go_at_call 14; refine (AH.out _).mono ?_; rintro r w8 ⟨rfl, b8⟩; have D8 := b3.drew.trans (b8.mono b3.drew.size); have P2 := KK.out _ D8))
              go_wp2_with (fail)
              exact ⟨⟨m, n2 + 1, a2, by omega, by omega, hb1, hb2, by go_num, rfl, by simp, HCC, B2.trans (D8.mono B2.size)⟩, by simp [intOf]⟩
            · have GS' : Hid (Mm.laneGo es goal (pl.drop (j + 1)) (n2 + 1) (p : Int) = Mm.laneGo es goal pl nn a) := GS.out.symm
              have ip2 : Hid (∀ wx, Below w2.heap.size w2 wx → wx.cell? ⟨pb, po + j, none⟩ = some (.int .i64 (p : Int))) := fun wx hb => (KK.out wx hb).2.1
              clear GS HGo
              go_wp2_with (fail)
              go_region_held3 (fun wx => (wx.cell? ⟨b, 2, none⟩ = some (.slice (some ⟨eb, eo, none⟩) n lc) ∧ (wx.cell? ⟨B, 0, none⟩ = some (str k) ∧ wx.cell? ⟨B, 1, none⟩ = some (str []) ∧ wx.cell? ⟨B, 2, none⟩ = some (.int .i64 q) ∧ wx.cell? ⟨B, 3, none⟩ = some (.bool false))) ∧ wx.cell? ⟨pb, po + j, none⟩ = some (.int .i64 (p : Int)) ∧ (wx.cell? ⟨eb, eo + p * 4, none⟩ = some (str X.key) ∧ wx.cell? ⟨eb, eo + p * 4 + 1, none⟩ = some (str X.value) ∧ wx.cell? ⟨eb, eo + p * 4 + 2, none⟩ = some (.int .i64 X.seq) ∧ wx.cell? ⟨eb, eo + p * 4 + 3, none⟩ = some (.bool X.del)))
                (first | exact P1 | exact P2)
                (first
                  | (go_at_call 14; refine (AH.out _).mono ?_; rintro r w8 ⟨rfl, b8⟩; have D8 := b3.drew.trans (b8.mono b3.drew.size); have P2 := KK.out _ D8))
              have ip8 := ip2.out _ D8
              go_wp2_with (fail)
              exact ⟨⟨j + 1, n2 + 1, (p : Int), by omega, by omega, by omega, by omega, by go_num, rfl, by go_num, GS', D8⟩, by simp [intOf]; omega⟩
        · have ej : j = L := by omega
          subst ej
          have j1 : ¬ (j : Int) < (j : Int) := by omega
          have HCC : Hid (Mm.costR es ts goal m n2 a2 = Mm.costR es ts goal 12 0 (-1)) := by
            have h1 := HG2.out
            rw [List.drop_of_length_le (by have := HL.out; omega)] at h1
            have h2 : (n2, a2) = Mm.laneGo es goal pl nn a := h1
            have := HC'.out
            rw [← h2] at this
            exact this
          clear HG2 HC'
          go_wp2_with (fail)
          exact ⟨⟨m, n2, a2, by omega, by omega, hb1, hb2, rfl, rfl, by simp, HCC, B3⟩, by simp [intOf]⟩
end
end Go.Proofs.Ytbdgdigpnfpnhaa.Q
