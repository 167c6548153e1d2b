/-
  Find: the latest version of a key up to a number.
-/
import Derived.Test.YtmkchjgckmdmcaaBVis
import Derived.Test.YtmkchjgckmdmcaaBFoldP
namespace Go.Proofs.Ytmkchjgckmdmcaa
open Go.RowKit

set_option maxRecDepth 100000 in
set_option maxHeartbeats 4000000 in
theorem search_find (w : World) (n : Nat) (hn : n ≤ 1000000) (c1 c2 : Value) (p : Nat → Bool) (hp : ∀ i j, i ≤ j → p i = true → p j = true)
    (F : Hid (∀ wx, Below w.heap.size w wx → ∀ i : Nat, i < n → Calls Try.prog 39 #[.int .i64 (i : Int), c1, c2] wx fun e w' => e = .returned (.bool (p i)) ∧ Below wx.heap.size wx w')) :
    Calls Try.prog 38 #[.int .i64 (n : Int), .func (.func 39) #[] #[c1, c2]] w fun e w' => ∃ r : Nat, e = .returned (.int .i64 (r : Int)) ∧ r ≤ n ∧ (∀ k, k < r → p k = false) ∧ (∀ k, r ≤ k → k < n → p k = true) ∧ Below w.heap.size w w' := by
  have HP : Hid (∀ i j, i ≤ j → p i = true → p j = true) := hp
  clear hp
  go_enter Try.func38, Try.ntmps38
  go_wp2_with (fail)
  go_loopw [5, 6] (fun i j wr => ∃ lo hi : Nat, i = .int .i64 (lo : Int) ∧ j = .int .i64 (hi : Int) ∧ lo ≤ hi ∧ hi ≤ n ∧ Hid (∀ k, k < lo → p k = false) ∧ Hid (∀ k, hi ≤ k → k < n → p k = true) ∧ Below w.heap.size w wr) (fun i j _ => (intOf j).toNat - (intOf i).toNat)
  case atStart => exact ⟨0, n, rfl, rfl, Nat.zero_le _, Nat.le_refl _, fun k h => absurd h (by omega), fun k h1 h2 => absurd h1 (by omega), Below.refl _ _⟩
  case round =>
    obtain ⟨lo, hi, rfl, rfl, hlh, hhn, HL, HH, bx⟩ := hrel
    by_cases hlt : lo < hi
    · have FM := hide (F.out wr bx ((lo + hi) / 2) (by omega))
      have m1 : lo ≤ (lo + hi) / 2 := by omega
      have m2 : (lo + hi) / 2 < hi := by omega
      have FL : Hid (p ((lo + hi) / 2) = false → ∀ k, k < (lo + hi) / 2 + 1 → p k = false) := fun h0 k hk => by
        cases hc : p k with
        | false => rfl
        | true => have := HP.out k ((lo + hi) / 2) (by omega) hc; rw [h0] at this; cases this
      have FH : Hid (p ((lo + hi) / 2) = true → ∀ k, (lo + hi) / 2 ≤ k → k < n → p k = true) := fun h0 k hk _ => HP.out _ k hk h0
      obtain ⟨b, hb⟩ : ∃ b, b = p ((lo + hi) / 2) := ⟨_, rfl⟩
      rw [← hb] at FM FL FH
      clear hb
      have HI : Hid ((((lo + hi) / 2 : Nat) : Int) = ((lo : Int) + (hi : Int)) / 2) := by show _ = _; omega
      rw [HI.out] at FM
      have q1 : (0 : Int) ≤ ((lo : Int) + (hi : Int)) / 2 := by omega
      have q2 : ((lo : Int) + (hi : Int)) / 2 < 1000000 := by omega
      cases b with
      | true =>
        have FQ := hide (FH.out rfl)
        clear FL FH
        go_wp2_with (first
          | (go_at_call 39; refine FM.out.mono ?_; rintro e w1 ⟨rfl, b1⟩))
        exact ⟨⟨lo, (lo + hi) / 2, rfl, by rw [HI.out], m1, by omega, HL, FQ, bx.trans (b1.mono bx.size)⟩, by simp [intOf]; omega⟩
      | false =>
        have FQ := hide (FL.out rfl)
        clear FL FH
        go_wp2_with (first
          | (go_at_call 39; refine FM.out.mono ?_; rintro e w1 ⟨rfl, b1⟩))
        exact ⟨⟨(lo + hi) / 2 + 1, hi, by rw [Int.natCast_add, HI.out]; rfl, rfl, by omega, hhn, FQ, HH, bx.trans (b1.mono bx.size)⟩, by simp [intOf]; omega⟩
    · have e : lo = hi := by omega
      subst e
      have i3 : ¬ (lo : Int) < (lo : Int) := by omega
      go_wp2_with (fail)
      go_ret
      exact ⟨lo, rfl, hhn, HL.out, HH.out, bx⟩


set_option maxRecDepth 100000 in
set_option maxHeartbeats 4000000 in
theorem find_asks (w : World) (a : Option Addr) (c n : Nat) (l : List Mm.Ent) (h : EntsAt w (.slice a n c) l) (hn : n = l.length) (A B : Nat) (k : List UInt8) (q : Int) (hA : w.cell? ⟨A, 0, none⟩ = some (.slice a n c)) (hB : w.heap[B]? = some (eO ⟨k, [], q, false⟩)) (i : Nat) (hi : i < l.length) (hi6 : l.length ≤ 1000000) :
    Calls Try.prog 39 #[.int .i64 (i : Int), .pointer (some ⟨A, 0, none⟩), .pointer (some ⟨B, 0, none⟩)] w fun e w' => e = .returned (.bool (!Mm.ahead l[i] ⟨k, [], q, false⟩)) ∧ Below w.heap.size w w' := by
  obtain ⟨b, off, rfl⟩ := h.some (by omega)
  have KC : Hid (∀ wx, Below w.heap.size w wx → ((wx.cell? ⟨b, off + i * 4, none⟩ = some (str l[i].key) ∧ wx.cell? ⟨b, off + i * 4 + 1, none⟩ = some (str l[i].value) ∧ wx.cell? ⟨b, off + i * 4 + 2, none⟩ = some (.int .i64 l[i].seq) ∧ wx.cell? ⟨b, off + i * 4 + 3, none⟩ = some (.bool l[i].del)) ∧ wx.cell? ⟨A, 0, none⟩ = some (.slice (some ⟨b, off, none⟩) n c)) ∧ wx.cell? ⟨B, 0, none⟩ = some (str k) ∧ wx.cell? ⟨B, 1, none⟩ = some (str []) ∧ wx.cell? ⟨B, 2, none⟩ = some (.int .i64 q) ∧ wx.cell? ⟨B, 3, none⟩ = some (.bool false)) := fun wx hw => by
    have hb := keepB hw hB
    exact ⟨⟨(h.later hw).cells i hi, keepC hw hA⟩, Joins.cell_of_block hb 0, Joins.cell_of_block hb 1, Joins.cell_of_block hb 2, Joins.cell_of_block hb 3⟩
  have AH := hide (fun wx => ahead_any wx l[i] ⟨k, [], q, false⟩)
  have i1 : (i : Int) < (n : Int) := by omega
  have i2 : (0 : Int) ≤ (i : Int) := by omega
  have P1 := KC.out w.drew (Below.refl _ _).drew
  generalize Mm.ahead l[i] ⟨k, [], q, false⟩ = R at *
  generalize l[i] = x at *
  clear h hn hA hB
  go_enter Try.func39, Try.ntmps39
  go_wp2_with (fail)
  go_region_held3 (fun wx => ((wx.cell? ⟨b, off + i * 4, none⟩ = some (str x.key) ∧ wx.cell? ⟨b, off + i * 4 + 1, none⟩ = some (str x.value) ∧ wx.cell? ⟨b, off + i * 4 + 2, none⟩ = some (.int .i64 x.seq) ∧ wx.cell? ⟨b, off + i * 4 + 3, none⟩ = some (.bool x.del)) ∧ wx.cell? ⟨A, 0, none⟩ = some (.slice (some ⟨b, off, none⟩) n c)) ∧ wx.cell? ⟨B, 0, none⟩ = some (str k) ∧ wx.cell? ⟨B, 1, none⟩ = some (str []) ∧ wx.cell? ⟨B, 2, none⟩ = some (.int .i64 q) ∧ wx.cell? ⟨B, 3, none⟩ = some (.bool false))
    (first | exact P1 | exact P2)
    (first
      | (go_at_call 40; refine (AH.out _).mono ?_; rintro r w8 ⟨rfl, b8⟩; have D8 := (Below.refl w.heap.size w).drew.trans b8; have P2 := KC.out _ D8))
  go_wp2_with (fail)
  go_ret
  exact ⟨rfl, D8⟩

/-- What Find answers. -/
def findE (l : List Mm.Ent) (k : List UInt8) (q : Int) : Option Mm.Ent :=
  match (l.dropWhile fun x => Mm.ahead x ⟨k, [], q, false⟩).head? with
  | none => none
  | some x => if x.key = k then some x else none
theorem drop_ahead {l : List Mm.Ent} (W : Mm.Ent) (r : Nat) (hr : r ≤ l.length) (h1 : ∀ k (h : k < l.length), k < r → Mm.ahead l[k] W = true) (h2 : ∀ h : r < l.length, Mm.ahead l[r] W = false) : l.dropWhile (fun x => Mm.ahead x W) = l.drop r := by
  have e : l = l.take r ++ l.drop r := (List.take_append_drop r l).symm
  conv => lhs; rw [e]
  rw [List.dropWhile_append_of_pos (fun x hx => by
    obtain ⟨k, hk, rfl⟩ := List.mem_iff_getElem.1 hx
    rw [List.length_take] at hk
    rw [List.getElem_take]
    exact h1 k (by omega) (by omega))]
  by_cases hlt : r < l.length
  · rw [List.drop_eq_getElem_cons hlt, List.dropWhile_cons, h2 hlt]
    simp
  · rw [List.drop_eq_nil_of_le (by omega)]
    rfl
abbrev foundV : Option Mm.Ent → Value
  | none => .tuple #[entV ⟨[], [], 0, false⟩, .bool false]
  | some x => .tuple #[entV x, .bool true]

set_option maxRecDepth 100000 in
set_option maxHeartbeats 8000000 in
theorem find_any (w : World) (a : Option Addr) (c n : Nat) (l : List Mm.Ent) (h : EntsAt w (.slice a n c) l) (hn : n = l.length) (hl : n ≤ 1000000) (hk : ∀ x ∈ l, x.key.length ≤ 1000000 ∧ x.value.length ≤ 1000000) (hu : Mm.Up l) (k : List UInt8) (q : Int) :
    Calls Try.prog 10 #[.slice a n c, str k, .int .i64 q] w fun e w' => e = .returned (foundV (findE l k q)) ∧ Below w.heap.size w w' := by
  obtain ⟨W, hW⟩ : ∃ W, W = ((w.alloc (.cells #[.slice a n c] 22)).alloc (.cells #[.string ⟨#[]⟩, .string ⟨#[]⟩, .int .i64 0, .bool false] 27)).alloc (.cells #[str k, .string ⟨#[]⟩, .int .i64 q, .bool false] 27) := ⟨_, rfl⟩
  have b0 : Below w.heap.size w W := by rw [hW]; exact (((Below.refl _ _).alloc (Nat.le_refl _) _).alloc (by simp) _).alloc (by simp; omega) _
  have e0 : W.heap[w.heap.size]? = some (.cells #[.slice a n c] 22 (0, 0)) := by rw [hW]; exact (Below.heap_alloc _ _ _ (by simp; omega)).trans ((Below.heap_alloc _ _ _ (by simp)).trans (World.alloc_heap_new w _))
  have y0 : W.heap[w.heap.size + 1]? = some (eO ⟨[], [], 0, false⟩) := by
    rw [hW]
    refine (Below.heap_alloc _ _ _ (by simp)).trans ?_
    have := World.alloc_heap_new (w.alloc (.cells #[.slice a n c] 22)) (.cells #[.string ⟨#[]⟩, .string ⟨#[]⟩, .int .i64 0, .bool false] 27)
    rw [World.size_alloc] at this
    exact this
  have z0 : W.heap[w.heap.size + 2]? = some (eO ⟨k, [], q, false⟩) := by
    rw [hW]
    have := World.alloc_heap_new ((w.alloc (.cells #[.slice a n c] 22)).alloc (.cells #[.string ⟨#[]⟩, .string ⟨#[]⟩, .int .i64 0, .bool false] 27)) (.cells #[str k, .string ⟨#[]⟩, .int .i64 q, .bool false] 27)
    rw [World.size_alloc, World.size_alloc] at this
    exact this
  have SR : Hid (Calls Try.prog 38 #[.int .i64 (n : Int), .func (.func 39) #[] #[.pointer (some ⟨w.heap.size, 0, none⟩), .pointer (some ⟨w.heap.size + 2, 0, none⟩)]] W fun e w' => ∃ r : Nat, e = .returned (.int .i64 (r : Int)) ∧ Hid (r ≤ n ∧ l.dropWhile (fun x => Mm.ahead x ⟨k, [], q, false⟩) = l.drop r) ∧ Below W.heap.size W w') := by
    refine (search_find W n hl _ _ (fun i => if h : i < l.length then !Mm.ahead l[i] ⟨k, [], q, false⟩ else true) ?_ ?_).mono ?_
    · intro i j hij hp
      by_cases hj : j < l.length
      · rw [dif_pos hj]
        rw [dif_pos (by omega)] at hp
        rcases Nat.lt_or_eq_of_le hij with h1 | h1
        · cases hc : Mm.ahead l[j] ⟨k, [], q, false⟩ with
          | false => rfl
          | true =>
            have := Mm.ahead_trans (List.pairwise_iff_getElem.1 hu i j (by omega) hj h1) hc
            rw [this] at hp; cases hp
        · subst h1; exact hp
      · rw [dif_neg hj]
    · intro wx hx i hi
      have hil : i < l.length := by omega
      refine (find_asks wx a c n l ((h.later b0).later hx) hn w.heap.size (w.heap.size + 2) k q (keepC hx (Joins.cell_of_block e0 0)) (keepB hx z0) i hil (by omega)).mono ?_
      rintro e w' ⟨rfl, b⟩
      refine ⟨?_, b⟩
      rw [dif_pos hil]
    · rintro e w' ⟨r, rfl, hr, h1, h2, b⟩
      refine ⟨r, rfl, ⟨hr, drop_ahead _ r (by omega) (fun j hj hjr => ?_) (fun hj => ?_)⟩, b⟩
      · have := h1 j hjr
        rw [dif_pos hj] at this
        simpa using this
      · have := h2 r (Nat.le_refl _) (by omega)
        rw [dif_pos hj] at this
        simpa using this
  have OW : Hid (∀ wx, ∀ x ∈ l, Calls Try.prog 41 #[entV x] wx fun e w' => e = .returned (entV x) ∧ Below wx.heap.size wx w') := fun wx x hx => own_e wx x (hk x hx).1 (hk x hx).2
  have HE := hide e0
  have HY := hide y0
  have HB := hide b0
  have HA := hide (h.later b0)
  have HN : Hid (n = l.length) := hn
  have HW : Hid (W = ((w.alloc (.cells #[.slice a n c] 22)).alloc (.cells #[.string ⟨#[]⟩, .string ⟨#[]⟩, .int .i64 0, .bool false] 27)).alloc (.cells #[str k, .string ⟨#[]⟩, .int .i64 q, .bool false] 27)) := hW
  rw [hW] at SR
  clear h hk hu hW e0 y0 z0 b0 hn
  go_enter Try.func10, Try.ntmps10
  go_wp2_with (fail)
  refine SR.out.mono ?_
  rintro e w1 ⟨r, rfl, HR, b1⟩
  rw [← HW.out] at b1
  clear SR
  have hrn := HR.out.1
  have A1 := hide (HA.out.later b1)
  have E1 := hide (keepB b1 HE.out)
  have y1 := keepB b1 HY.out
  have B1 : Below w.heap.size w w1 := HB.out.trans (b1.mono HB.out.size)
  have x0 : w1.cell? ⟨w.heap.size, 0, none⟩ = some (.slice a n c) := Joins.cell_of_block E1.out 0
  obtain ⟨p0, p1, p2, p3, f0, f1, f2, f3⟩ := slot4 y1
  have HD : Hid (findE l k q = match (l.drop r).head? with | none => none | some x => if x.key = k then some x else none) := by show _ = _; unfold findE; rw [HR.out.2]
  have Y1 := hide y1
  have FIN : Hid (∀ (wx : World) (e : Mm.Ent), wx.heap[w.heap.size + 1]? = some (eO ⟨[], [], 0, false⟩) → Below w.heap.size w wx → (((((wx.setCell ⟨w.heap.size + 1, 0, none⟩ (str e.key)).setCell ⟨w.heap.size + 1, 1, none⟩ (str e.value)).setCell ⟨w.heap.size + 1, 2, none⟩ (.int .i64 e.seq)).setCell ⟨w.heap.size + 1, 3, none⟩ (.bool e.del)).heap[w.heap.size + 1]? = some (eO e) ∧ Below w.heap.size w ((((wx.setCell ⟨w.heap.size + 1, 0, none⟩ (str e.key)).setCell ⟨w.heap.size + 1, 1, none⟩ (str e.value)).setCell ⟨w.heap.size + 1, 2, none⟩ (.int .i64 e.seq)).setCell ⟨w.heap.size + 1, 3, none⟩ (.bool e.del)))) := fun wx e hy hb => by
    have m5 : ∀ (v : World) (i : Nat) (u : Value), Moved (fun j => j = w.heap.size + 1) v (v.setCell ⟨w.heap.size + 1, i, none⟩ u) := fun v i u => Moved.setCell (S := fun j => j = w.heap.size + 1) (Moved.refl _ v) (p := ⟨w.heap.size + 1, i, none⟩) (fun _ => rfl) u
    have m6 := (((m5 wx 0 (str e.key)).trans (m5 _ 1 (str e.value)) (fun _ _ h => h)).trans (m5 _ 2 (.int .i64 e.seq)) (fun _ _ h => h)).trans (m5 _ 3 (.bool e.del)) (fun _ _ h => h)
    exact ⟨(Joins.block_setCell (Joins.block_setCell (Joins.block_setCell (Joins.block_setCell hy _) _) _) _).trans rfl, hb.trans (m6.under hb.size (fun i hi => by omega))⟩
  clear HA HE HY HB HW HR b1 y1
  by_cases hlt : r < n
  · have rl : r < l.length := by have := HN.out; omega
    have hd : (l.drop r).head? = some l[r] := by rw [List.drop_eq_getElem_cons rl]; rfl
    obtain ⟨b, off, rfl⟩ := (A1.out).some (by omega)
    obtain ⟨c0, c1, c2, c3⟩ := A1.out.cells r rl
    have OX := hide (fun wx => OW.out wx l[r] (List.getElem_mem rl))
    rw [hd] at HD
    have r1 : (r : Int) < (n : Int) := by omega
    have r2 : (0 : Int) ≤ (r : Int) := by omega
    have r3 : ((r : Int) == (n : Int)) = false := by simp; omega
    generalize l[r] = x at *
    obtain ⟨K, V, Q, D⟩ := x
    simp only at c0 c1 c2 c3 HD
    clear hd OW A1 HN
    by_cases hkk : K = k
    · subst hkk
      have HF : Hid (findE l K q = some ⟨K, V, Q, D⟩) := by show _ = _; rw [HD.out]; simp
      clear HD
      go_wp2_with (first
        | (go_at_call 41; refine (OX.out _).mono ?_; rintro e w2 ⟨rfl, b2⟩; have y2 := keepB b2 Y1.out; obtain ⟨p0, p1, p2, p3, f0, f1, f2, f3⟩ := slot4 y2; have B2 := B1.trans (b2.mono B1.size); clear OX))
      obtain ⟨F1, F2⟩ := FIN.out w2 ⟨K, V, Q, D⟩ y2 B2
      obtain ⟨t0, t1, t2, t3, _⟩ := slot4 F1
      refine bodyPost_ret (v := foundV (some ⟨K, V, Q, D⟩)) (by simp [results, Try.results10, go_sem, t0, t1, t2, t3]) rfl ?_
      rw [HF.out]
      exact ⟨rfl, F2⟩
    · have hb : (!K == k) = true := by simp [hkk]
      have HF : Hid (findE l k q = none) := by show _ = _; rw [HD.out]; simp [hkk]
      clear HD OX
      go_wp2_with (fail)
      obtain ⟨F1, F2⟩ := FIN.out w1 ⟨[], [], 0, false⟩ Y1.out B1
      obtain ⟨t0, t1, t2, t3, _⟩ := slot4 F1
      refine bodyPost_ret (v := foundV none) (by simp [results, Try.results10, go_sem, t0, t1, t2, t3]) rfl ?_
      rw [HF.out]
      exact ⟨rfl, F2⟩
  · have e : r = n := by omega
    subst e
    have HF : Hid (findE l k q = none) := by
      show _ = _
      rw [HD.out, List.drop_eq_nil_of_le (by have := HN.out; omega)]
      rfl
    clear HD OW A1
    go_wp2_with (fail)
    obtain ⟨F1, F2⟩ := FIN.out w1 ⟨[], [], 0, false⟩ Y1.out B1
    obtain ⟨t0, t1, t2, t3, _⟩ := slot4 F1
    refine bodyPost_ret (v := foundV none) (by simp [results, Try.results10, go_sem, t0, t1, t2, t3]) rfl ?_
    rw [HF.out]
    exact ⟨rfl, F2⟩
end Go.Proofs.Ytmkchjgckmdmcaa
