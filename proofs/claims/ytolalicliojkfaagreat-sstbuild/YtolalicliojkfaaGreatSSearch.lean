/-
  The binary search of a table: the first block whose last entry is such.
-/
import Derived.Test.YtolalicliojkfaaGreatSMeth
import Derived.Test.YtolalicliojkfaaGreatSK
import Derived.Laws.EntriesVeiled
namespace Go.Proofs.YtolalicliojkfaaGreat
open Go.RowKit


set_option maxRecDepth 100000 in
set_option maxHeartbeats 4000000 in
theorem search_parts (w : World) (n : Nat) (hn : n ≤ 1000000) (c1 c2 : Value) (p : Nat → Bool) (hp : ∀ i j, i ≤ j → p i = true → p j = true)
    (F : Hid (∀ wx, Below w.heap.size w wx → ∀ i : Nat, i < n → Calls Tryz.prog 76 #[.int .i64 (i : Int), c1, c2] wx fun e w' => e = .returned (.bool (p i)) ∧ Below wx.heap.size wx w')) :
    Calls Tryz.prog 75 #[.int .i64 (n : Int), .func (.func 76) #[] #[c1, c2]] w fun e w' => ∃ r : Nat, e = .returned (.int .i64 (r : Int)) ∧ r ≤ n ∧ (∀ k, k < r → p k = false) ∧ (∀ k, r ≤ k → k < n → p k = true) ∧ Below w.heap.size w w' := by
  have HP : Hid (∀ i j, i ≤ j → p i = true → p j = true) := hp
  clear hp
  go_enter Tryz.func75, Tryz.ntmps75
  go_wp2_with (fail)
  go_loopw [5, 6] (fun i j wr => ∃ lo hi : Nat, i = .int .i64 (lo : Int) ∧ j = .int .i64 (hi : Int) ∧ lo ≤ hi ∧ hi ≤ n ∧ Hid (∀ k, k < lo → p k = false) ∧ Hid (∀ k, hi ≤ k → k < n → p k = true) ∧ Below w.heap.size w wr) (fun i j _ => (intOf j).toNat - (intOf i).toNat)
  case atStart => exact ⟨0, n, rfl, rfl, Nat.zero_le _, Nat.le_refl _, fun k h => absurd h (by omega), fun k h1 h2 => absurd h1 (by omega), Below.refl _ _⟩
  case round =>
    obtain ⟨lo, hi, rfl, rfl, hlh, hhn, HL, HH, bx⟩ := hrel
    by_cases hlt : lo < hi
    · have FM := hide (F.out wr bx ((lo + hi) / 2) (by omega))
      have m1 : lo ≤ (lo + hi) / 2 := by omega
      have m2 : (lo + hi) / 2 < hi := by omega
      have FL : Hid (p ((lo + hi) / 2) = false → ∀ k, k < (lo + hi) / 2 + 1 → p k = false) := fun h0 k hk => by
        cases hc : p k with
        | false => rfl
        | true => have := HP.out k ((lo + hi) / 2) (by omega) hc; rw [h0] at this; cases this
      have FH : Hid (p ((lo + hi) / 2) = true → ∀ k, (lo + hi) / 2 ≤ k → k < n → p k = true) := fun h0 k hk _ => HP.out _ k hk h0
      obtain ⟨b, hb⟩ : ∃ b, b = p ((lo + hi) / 2) := ⟨_, rfl⟩
      rw [← hb] at FM FL FH
      clear hb
      have HI : Hid ((((lo + hi) / 2 : Nat) : Int) = ((lo : Int) + (hi : Int)) / 2) := by show _ = _; omega
      rw [HI.out] at FM
      have q1 : (0 : Int) ≤ ((lo : Int) + (hi : Int)) / 2 := by omega
      have q2 : ((lo : Int) + (hi : Int)) / 2 < 1000000 := by omega
      cases b with
      | true =>
        have FQ := hide (FH.out rfl)
        clear FL FH
        go_wp2_with (first
          | (go_at_call 76; refine FM.out.mono ?_; rintro e w1 ⟨rfl, b1⟩))
        exact ⟨⟨lo, (lo + hi) / 2, rfl, by rw [HI.out], m1, by omega, HL, FQ, bx.trans (b1.mono bx.size)⟩, by simp [intOf]; omega⟩
      | false =>
        have FQ := hide (FL.out rfl)
        clear FL FH
        go_wp2_with (first
          | (go_at_call 76; refine FM.out.mono ?_; rintro e w1 ⟨rfl, b1⟩))
        exact ⟨⟨(lo + hi) / 2 + 1, hi, by rw [Int.natCast_add, HI.out]; rfl, rfl, by omega, hhn, FQ, HH, bx.trans (b1.mono bx.size)⟩, by simp [intOf]; omega⟩
    · have e : lo = hi := by omega
      subst e
      have i3 : ¬ (lo : Int) < (lo : Int) := by omega
      go_wp2_with (fail)
      go_ret
      exact ⟨lo, rfl, hhn, HL.out, HH.out, bx⟩



set_option maxRecDepth 100000 in
set_option maxHeartbeats 1000000 in
theorem get1_any (w : World) (B : Nat) (W x : Mm.Ent) (hB : w.heap[B]? = some (.cells #[str W.key, str W.value, .int .i64 W.seq, .bool W.del] 42 (0, 0))) :
    Calls Tryz.prog 47 #[entV x, .pointer (some ⟨B, 0, none⟩)] w fun e w' => e = .returned (.bool (!Mm.ahead x W)) ∧ Below w.heap.size w w' := by
  have AH : Hid (∀ wx, Calls Tryz.prog 48 #[entV x, entV W] wx fun r w' => r = .returned (.bool (Mm.ahead x W)) ∧ Below wx.heap.size wx w') := fun wx => ahead_any wx _ _
  obtain ⟨x1, x2, x3, x4⟩ := x
  obtain ⟨W', hW'⟩ : ∃ W', W' = w.alloc (.cells #[str x1, str x2, .int .i64 x3, .bool x4] 42) := ⟨_, rfl⟩
  have a1 : Below w.heap.size w W' := by rw [hW']; exact (Below.refl _ _).alloc (Nat.le_refl _) _
  have hb := keepB a1 hB
  have c0 : W'.cell? ⟨B, 0, none⟩ = some (str W.key) := Joins.cell_of_block hb 0
  have c1 : W'.cell? ⟨B, 1, none⟩ = some (str W.value) := Joins.cell_of_block hb 1
  have c2 : W'.cell? ⟨B, 2, none⟩ = some (.int .i64 W.seq) := Joins.cell_of_block hb 2
  have c3 : W'.cell? ⟨B, 3, none⟩ = some (.bool W.del) := Joins.cell_of_block hb 3
  rw [hW'] at c0 c1 c2 c3
  have e0 : w.cell? ⟨B, 0, none⟩ = some (str W.key) := Joins.cell_of_block hB 0
  have e1 : w.cell? ⟨B, 1, none⟩ = some (str W.value) := Joins.cell_of_block hB 1
  have e2 : w.cell? ⟨B, 2, none⟩ = some (.int .i64 W.seq) := Joins.cell_of_block hB 2
  have e3 : w.cell? ⟨B, 3, none⟩ = some (.bool W.del) := Joins.cell_of_block hB 3
  have hlt : B < w.heap.size := (Array.getElem?_eq_some_iff.1 hB).1
  have hne : ¬ w.heap.size = B := by omega
  clear hb hB
  go_enter Tryz.func47, Tryz.ntmps47
  go_wp2_with (first
    | (go_at_call 48; refine (AH.out _).mono ?_; rintro r w8 ⟨rfl, b8⟩))
  go_ret
  rw [hW'] at a1
  exact ⟨rfl, a1.trans (b8.mono a1.size)⟩

set_option maxRecDepth 100000 in
set_option maxHeartbeats 4000000 in
theorem getAt_any (w : World) (base B n S T : Nat) (t : Ss.Tab) (h : TabAt w base B t n) (c : Value) (i : Nat) (hi : i < t.parts.length) (_hm : t.parts.length ≤ 1000000) (A : Bool)
    (hS : w.cell? ⟨S, 0, none⟩ = some (.func (.func 47) #[] #[c])) (hT : w.cell? ⟨T, 0, none⟩ = some (.pointer (some ⟨B, 0, none⟩)))
    (F : Hid (∀ wx, Below w.heap.size w wx → Calls Tryz.prog 47 #[entV (Ss.Prt.ent t.parts[i]), c] wx fun e w' => e = .returned (.bool A) ∧ Below wx.heap.size wx w')) :
    Calls Tryz.prog 76 #[.int .i64 (i : Int), .pointer (some ⟨S, 0, none⟩), .pointer (some ⟨T, 0, none⟩)] w fun e w' => e = .returned (.bool A) ∧ Below w.heap.size w w' := by
  obtain ⟨ba, bc', fa, fc, pa, pc, ⟨c0, c1, c2, c3, c4, c5⟩, f5, _, _, o⟩ := h.cells
  generalize t.parts = ps at *
  obtain ⟨⟨pa', pc', hv, hpc, hpf⟩⟩ := PartsAt.own o
  obtain ⟨pg, rfl, hg1, hcell⟩ := hpf (by intro e; rw [e] at hi; simp at hi)
  simp only [Value.slice.injEq, true_and] at hv
  obtain ⟨rfl, rfl⟩ := hv
  obtain ⟨d0, d1, d2, d3, d4, d5⟩ := hcell i hi
  have FD := hide (F.out w.drew (Below.refl _ _).drew)
  obtain ⟨q, hq⟩ : ∃ q, q = ps[i] := ⟨_, rfl⟩
  rw [← hq] at d2 d4 FD
  clear hcell hpf o hg1 hq F d0 d1 c0 c1 c2 c4 c5 f5
  obtain ⟨L, hL⟩ : ∃ L, L = ps.length := ⟨_, rfl⟩
  rw [← hL] at hi hpc c3
  clear hL
  obtain ⟨X, Fi, K, Q⟩ := q
  simp only [Ss.Prt.ent] at FD d2 d4
  have q1 : (0 : Int) ≤ (i : Int) := by omega
  have q2 : (i : Int) < (L : Int) := by omega
  have KC : Hid (∀ wx, Below w.heap.size w wx → (wx.cell? ⟨S, 0, none⟩ = some (.func (.func 47) #[] #[c]) ∧ wx.cell? ⟨T, 0, none⟩ = some (.pointer (some ⟨B, 0, none⟩)) ∧ wx.cell? ⟨B, 3, none⟩ = some (.slice (some ⟨pg, 0, none⟩) L pc)) ∧ wx.cell? ⟨pg, i * 6 + 2, none⟩ = some (str K) ∧ wx.cell? ⟨pg, i * 6 + 3, none⟩ = some (str []) ∧ wx.cell? ⟨pg, i * 6 + 4, none⟩ = some (.int .i64 (Q : Int)) ∧ wx.cell? ⟨pg, i * 6 + 5, none⟩ = some (.bool false)) := fun wx hw => ⟨⟨keepC hw hS, keepC hw hT, keepC hw c3⟩, keepC hw d2, keepC hw d3, keepC hw d4, keepC hw d5⟩
  have P1 := KC.out w.drew (Below.refl _ _).drew
  clear hS hT c3 d2 d3 d4 d5
  go_enter Tryz.func76, Tryz.ntmps76
  go_wp2_with (fail)
  go_region_held3 (fun wx => (wx.cell? ⟨S, 0, none⟩ = some (.func (.func 47) #[] #[c]) ∧ wx.cell? ⟨T, 0, none⟩ = some (.pointer (some ⟨B, 0, none⟩)) ∧ wx.cell? ⟨B, 3, none⟩ = some (.slice (some ⟨pg, 0, none⟩) L pc)) ∧ wx.cell? ⟨pg, i * 6 + 2, none⟩ = some (str K) ∧ wx.cell? ⟨pg, i * 6 + 3, none⟩ = some (str []) ∧ wx.cell? ⟨pg, i * 6 + 4, none⟩ = some (.int .i64 (Q : Int)) ∧ wx.cell? ⟨pg, i * 6 + 5, none⟩ = some (.bool false))
    (first | exact P1 | exact P2)
    (first
      | (go_at_call 47; refine FD.out.mono ?_; rintro r w8 ⟨rfl, b8⟩; have D8 := (Below.refl w.heap.size w).drew.trans b8; have P2 := KC.out _ D8))
  go_wp2_with (fail)
  go_ret
  exact ⟨rfl, D8⟩

set_option maxRecDepth 100000 in
set_option maxHeartbeats 4000000 in
theorem getSearch_any (w : World) (base B n : Nat) (t : Ss.Tab) (h : TabAt w base B t n) (c : Value) (hm : t.parts.length ≤ 1000000) (p : Nat → Bool) (hp : ∀ i j, i ≤ j → p i = true → p j = true)
    (F : Hid (∀ wx, Below w.heap.size w wx → ∀ i (hi : i < t.parts.length), Calls Tryz.prog 47 #[entV (Ss.Prt.ent t.parts[i]), c] wx fun e w' => e = .returned (.bool (p i)) ∧ Below wx.heap.size wx w')) :
    Calls Tryz.prog 46 #[.pointer (some ⟨B, 0, none⟩), .func (.func 47) #[] #[c]] w fun e w' => ∃ r : Nat, e = .returned (.int .i64 (r : Int)) ∧ r ≤ t.parts.length ∧ (∀ k, k < r → p k = false) ∧ (∀ k, r ≤ k → k < t.parts.length → p k = true) ∧ Below w.heap.size w w' := by
  have hmf : ∀ (fn : Fn) (first cap : Array Value) (w : World), (Instr.makeFunc fn first cap).run Tryz.prog w = .ok (.func fn first cap) w := fun _ _ _ _ => rfl
  obtain ⟨W2, hW2⟩ : ∃ W2, W2 = (w.alloc (.cells #[.pointer (some ⟨B, 0, none⟩)] 36)).alloc (.cells #[.func (.func 47) #[] #[c]] 83) := ⟨_, rfl⟩
  have a1 : Below w.heap.size w (w.alloc (.cells #[.pointer (some ⟨B, 0, none⟩)] 36)) := (Below.refl _ _).alloc (Nat.le_refl _) _
  have a2 : Below w.heap.size w W2 := by rw [hW2]; exact a1.alloc (by simp) _
  have h2 := h.later a2
  have e1 : W2.cell? ⟨w.heap.size, 0, none⟩ = some (.pointer (some ⟨B, 0, none⟩)) := by
    rw [hW2]
    exact Joins.cell_of_block ((Below.heap_alloc _ _ _ (by simp)).trans (World.alloc_heap_new w _)) 0
  have e2 : W2.cell? ⟨w.heap.size + 1, 0, none⟩ = some (.func (.func 47) #[] #[c]) := by
    rw [hW2]
    have := World.alloc_heap_new (w.alloc (.cells #[.pointer (some ⟨B, 0, none⟩)] 36)) (.cells #[.func (.func 47) #[] #[c]] 83)
    rw [World.size_alloc] at this
    exact Joins.cell_of_block this 0
  have SR : Hid (Calls Tryz.prog 75 #[.int .i64 (t.parts.length : Int), .func (.func 76) #[] #[.pointer (some ⟨w.heap.size + 1, 0, none⟩), .pointer (some ⟨w.heap.size, 0, none⟩)]] W2 fun e w' => ∃ r : Nat, e = .returned (.int .i64 (r : Int)) ∧ r ≤ t.parts.length ∧ (∀ k, k < r → p k = false) ∧ (∀ k, r ≤ k → k < t.parts.length → p k = true) ∧ Below W2.heap.size W2 w') :=
    search_parts W2 t.parts.length hm _ _ p hp (fun wx hx i hi => getAt_any wx base B n (w.heap.size + 1) w.heap.size t (h2.later hx) c i hi hm (p i) (keepC hx e2) (keepC hx e1) (fun wy hy => F.out wy (a2.trans ((hx.trans (hy.mono hx.size)).mono a2.size)) i hi))
  obtain ⟨ba, bc', fa, fc, pa, pc, ⟨c0, c1, c2, c3, c4, c5⟩, _⟩ := h2.cells
  rw [hW2] at SR c3
  have A2 := hide a2
  rw [hW2] at A2
  clear F h h2 e1 e2 c0 c1 c2 c4 c5 a1 hp hW2 a2
  go_enter Tryz.func46, Tryz.ntmps46
  go_wp2_with (first
    | (go_at_call 75; refine SR.out.mono ?_; rintro e w3 ⟨r, rfl, h1, h2, h3, b3⟩; clear SR))
  go_ret
  exact ⟨r, rfl, h1, h2, h3, A2.out.trans (b3.mono A2.out.size)⟩

end Go.Proofs.YtolalicliojkfaaGreat
