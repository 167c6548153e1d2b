/-
  Numbers sorted, and whether an entry stays. .. and what follows from it.
-/
import Derived.Test.YtbdgdigpnfpnhaaKI
import Derived.Test.YtbdgdigpnfpnhaaKS
import Derived.Test.YtbdgdigpnfpnhaaKT
namespace Go.Proofs.Ytbdgdigpnfpnhaa.Q
open Go.RowKit

/-- Sorted numbers, where they lie. -/
def IntsSorted (w : World) (g : Nat) (S : List Int) : Prop := ∀ j (h : j < S.length), w.cell? ⟨g, j, none⟩ = some (.int .i64 S[j])
theorem IntsSorted.later {w w' : World} {g : Nat} {S : List Int} (h : IntsSorted w g S) (b : Below w.heap.size w w') : IntsSorted w' g S := fun j hj => keepC b (h j hj)

open Go.Sort in
theorem sort_ints (w : World) (g cap : Nat) (A : List Int) (hc : ∀ j (h : j < A.length), w.cell? ⟨g, j, none⟩ = some (.int .i64 A[j])) (hf : ∀ j, w.frozen? ⟨g, j, none⟩ = false) (hg : g < w.heap.size) (hl : A.length ≤ 1000000) :
    Calls Try.prog 66 #[.slice (some ⟨g, 0, none⟩) A.length cap] w fun e w' => ∃ S : List Int, e = .returned (.tuple #[]) ∧ Hid (S.Perm A ∧ S.Pairwise (· ≤ ·) ∧ S.length = A.length) ∧ IntsSorted w' g S ∧ Moved (fun i => i = g) w w' := by
  have HH : Holds (Value.int .i64) w g 0 A.toArray := fun j hj => by
    have hj' : j < A.length := by simpa using hj
    rw [Nat.zero_add]
    refine ⟨?_, hf j⟩
    rw [hc j hj', getElem!_pos _ j hj]
    simp
  refine (Try.slices_Sort_int g 0 cap A w HH hg (by omega)).mono ?_
  rintro e w' ⟨rfl, n, os, rfl⟩
  have hp : (A.mergeSort fun x y => decide (x ≤ y)).Perm A := List.mergeSort_perm _ _
  have hlen : (A.mergeSort fun x y => decide (x ≤ y)).length = A.length := hp.length_eq
  have hs : (A.mergeSort fun x y => decide (x ≤ y)).Pairwise (· ≤ ·) := by
    have := List.pairwise_mergeSort (le := fun x y : Int => decide (x ≤ y)) (fun a b c h1 h2 => by simp at *; omega) (fun a b => by simp; omega) A
    exact this.imp (fun h => by simpa using h)
  refine ⟨_, rfl, ⟨hp, hs, hlen⟩, fun j hj => ?_, ⟨rfl, rfl, rfl, by simp, fun k hk hne => ?_⟩⟩
  · rw [cell?_grow _ _ _ (by simpa using hg)]
    have := cell?_putRow (Value.int .i64) (Sort.ahead w n) g 0 A.toArray (A.mergeSort fun x y => decide (x ≤ y)).toArray (holds_ahead _ _ _ _ _ _ HH) (by simp) j (by simpa using hj)
    rw [Nat.zero_add] at this
    rw [this, getElem!_pos _ j (by simpa using hj)]
    simp
  · rw [heap_grow_old _ _ (by simpa using hk)]
    show (mapBlock _ _ _).heap[k]? = _
    unfold mapBlock
    rw [heap_ahead]
    show (w.heap.modify g _)[k]? = _
    rw [Array.getElem?_modify]
    rw [if_neg (fun e => hne e.symm)]

theorem search_ints (w : World) (g cap : Nat) (S : List Int) (hc : IntsSorted w g S) (hs : S.Pairwise (· ≤ ·)) (hl : S.length ≤ 1000000) (x : Int) :
    Calls Try.prog 86 #[.slice (some ⟨g, 0, none⟩) S.length cap, .int .i64 x] w fun e w' => ∃ b, e = .returned (.tuple #[.int .i64 (S.countP (· < x) : Nat), .bool b]) ∧ Below w.heap.size w w' := by
  refine (Try.slices_BinarySearch_int g 0 S.length cap S x w (Nat.le_refl _) (by omega) (fun j hj => by rw [Nat.zero_add, hc j hj]; simp [List.getD_eq_getElem?_getD, hj]) (by rw [List.take_length]; exact hs)).mono ?_
  rintro e w' ⟨rfl, q, rfl⟩
  rw [List.take_length]
  exact ⟨_, rfl, below_drewN (Below.refl _ _) _⟩

def predE (l : List Mm.Ent) : Nat → Option Mm.Ent
  | 0 => none
  | k + 1 => l[k]?
set_option maxRecDepth 100000 in
set_option maxHeartbeats 8000000 in
theorem stays_any (w : World) (a : Option Addr) (c n : Nat) (l : List Mm.Ent) (h : EntsAt w (.slice a n c) l) (hn : n = l.length) (hl : n ≤ 1000000) (i : Nat) (hi : i < l.length) (g cap : Nat) (S A : List Int) (hc : IntsSorted w g S) (hp : S.Perm A) (hs : S.Pairwise (· ≤ ·)) (hSl : S.length ≤ 1000000) :
    Calls Try.prog 67 #[.slice a n c, .int .i64 (i : Int), .slice (some ⟨g, 0, none⟩) S.length cap] w fun e w' => e = .returned (.bool (Bk.staysB A (predE l i) l[i])) ∧ Below w.heap.size w w' := by
  have BS := hide (search_ints w g cap S hc hs hSl l[i].seq)
  obtain ⟨b, off, rfl⟩ := h.some (by omega)
  obtain ⟨c0, c1, c2, c3⟩ := h.cells i hi
  have i1 : (i : Int) < (n : Int) := by omega
  have i2 : (0 : Int) ≤ (i : Int) := by omega
  have hkl : S.countP (· < l[i].seq) ≤ S.length := List.countP_le_length
  have H := hide h
  have HC := hide hc
  by_cases hk : S.countP (· < l[i].seq) = S.length
  · have HF : Hid (Bk.staysB A (predE l i) l[i] = false) := Bk.stays_none hp hs _ _ hk
    rw [HF.out]
    rw [hk] at BS
    generalize l[i] = x at *
    clear h hc hp hs hk hkl H HC hn hl
    generalize S.length = sl at *
    go_enter Try.func67, Try.ntmps67
    go_wp2_with (first
      | (go_at_call 86; refine BS.out.mono ?_; rintro e w1 ⟨bb, rfl, b1⟩))
    go_ret
    exact ⟨rfl, b1⟩
  · have hlt : S.countP (· < l[i].seq) < S.length := by omega
    have HS := Bk.stays_some hp hs (predE l i) l[i] hlt
    have g0 := hc _ hlt
    generalize hSk : S[S.countP (· < l[i].seq)] = sk at *
    generalize hkk : S.countP (· < l[i].seq) = k at *
    have kn : ((k : Int) == (S.length : Int)) = false := by simp; omega
    have k1 : (k : Int) < (S.length : Int) := by omega
    have k2 : (0 : Int) ≤ (k : Int) := by omega
    clear hkk hSk hc hp hs hk hkl
    generalize S.length = sl at *
    cases i with
    | zero =>
      have HF : Hid (Bk.staysB A (predE l 0) l[0] = true) := HS
      rw [HF.out]
      clear HS h H
      generalize l[0] = x at *
      clear HF hn
      go_enter Try.func67, Try.ntmps67
      go_wp2_with (first
        | (go_at_call 86; refine BS.out.mono ?_; rintro e w1 ⟨bb, rfl, b1⟩; clear BS))
      go_quiet (fail)
      go_wp2_with (fail)
      go_quiet (fail)
      go_wp2_with (fail)
      go_ret
      exact ⟨rfl, below_drewN (below_drewN b1 _) _⟩
    | succ m =>
      have hm : m < l.length := by omega
      obtain ⟨p0, p1, p2, p3⟩ := h.cells m hm
      have hpe : predE l (m + 1) = some l[m] := List.getElem?_eq_getElem hm
      rw [hpe] at HS ⊢
      have m1 : (m : Int) < (n : Int) := by omega
      have m2 : (0 : Int) ≤ (m : Int) := by omega
      have m4 : (m : Int) + 1 < (n : Int) := by omega
      have m5 : (0 : Int) ≤ (m : Int) + 1 := by omega
      have m3 : ((m : Int) + 1 == 0) = false := by simp; omega
      have wm : IntKind.i64.wrap (m : Int) = (m : Int) := by rw [IntKind.wrap_i64]; omega
      have KC : Hid (∀ wx, Below w.heap.size w wx → (wx.cell? ⟨b, off + m * 4, none⟩ = some (str l[m].key) ∧ wx.cell? ⟨b, off + m * 4 + 2, none⟩ = some (.int .i64 l[m].seq)) ∧ wx.cell? ⟨b, off + (m + 1) * 4, none⟩ = some (str l[m + 1].key) ∧ wx.cell? ⟨g, k, none⟩ = some (.int .i64 sk)) := fun wx hw => ⟨⟨keepC hw p0, keepC hw p2⟩, keepC hw c0, keepC hw g0⟩
      generalize l[m] = y at *
      generalize l[m + 1] = x at *
      rw [show ((m + 1 : Nat) : Int) = (m : Int) + 1 by omega]
      clear h H HC hn i1 i2 hpe
      by_cases hky : y.key = x.key
      · have hb : (!y.key == x.key) = false := by simp [hky]
        have HF : Hid (Bk.staysB A (some y) x = decide (sk < y.seq)) := by show _ = _; rw [HS]; simp [hky]
        rw [HF.out]
        clear HS HF
        go_enter Try.func67, Try.ntmps67
        go_wp2_with (first
          | (go_at_call 86; refine BS.out.mono ?_; rintro e w1 ⟨bb, rfl, b1⟩; obtain ⟨⟨q0, q2⟩, q3, q4⟩ := KC.out _ b1; clear BS))
        go_quiet (fail)
        go_wp2_with (fail)
        go_quiet (fail)
        go_wp2_with (fail)
        go_ret
        exact ⟨rfl, below_drewN (below_drewN b1 _) _⟩
      · have hb : (!y.key == x.key) = true := by simp [hky]
        have HF : Hid (Bk.staysB A (some y) x = true) := by show _ = _; rw [HS]; simp [hky]
        rw [HF.out]
        clear HS HF
        go_enter Try.func67, Try.ntmps67
        go_wp2_with (first
          | (go_at_call 86; refine BS.out.mono ?_; rintro e w1 ⟨bb, rfl, b1⟩; obtain ⟨⟨q0, q2⟩, q3, q4⟩ := KC.out _ b1; clear BS))
        go_quiet (fail)
        go_wp2_with (fail)
        go_quiet (fail)
        go_wp2_with (fail)
        go_ret
        exact ⟨rfl, below_drewN (below_drewN b1 _) _⟩
end Go.Proofs.Ytbdgdigpnfpnhaa.Q
namespace Go.Proofs.Ytbdgdigpnfpnhaa.Q
open Go.RowKit

theorem ecs_set : ∀ (m : List Mm.Ent) (k : Nat) (x : Mm.Ent), k < m.length → ((((ecs m).set (k * 4) (str x.key)).set (k * 4 + 1) (str x.value)).set (k * 4 + 2) (.int .i64 x.seq)).set (k * 4 + 3) (.bool x.del) = ecs (m.set k x)
  | [], k, x, h => by simp at h
  | a :: r, 0, x, _ => rfl
  | a :: r, k + 1, x, h => by
    have ih := ecs_set r k x (by simpa using h)
    have e : ecs (a :: r) = str a.key :: str a.value :: .int .i64 a.seq :: .bool a.del :: ecs r := rfl
    have e2 : ecs ((a :: r).set (k + 1) x) = str a.key :: str a.value :: .int .i64 a.seq :: .bool a.del :: ecs (r.set k x) := rfl
    have e1 : (k + 1) * 4 = k * 4 + 1 + 1 + 1 + 1 := by omega
    rw [e2, e, e1, ← ih]
    rfl
/-- An entry put into its place, in a row that the call owns. -/
abbrev putE (w : World) (g k : Nat) (x : Mm.Ent) : World := (((w.setCell ⟨g, k * 4, none⟩ (str x.key)).setCell ⟨g, k * 4 + 1, none⟩ (str x.value)).setCell ⟨g, k * 4 + 2, none⟩ (.int .i64 x.seq)).setCell ⟨g, k * 4 + 3, none⟩ (.bool x.del)
theorem own_put {w : World} {base g n cap : Nat} {m : List Mm.Ent} (h : w.ownsRow base 38 4 (.slice (some ⟨g, 0, none⟩) n cap) n (ecs m)) (k : Nat) (hk : k < m.length) (x : Mm.Ent) :
    (putE w g k x).ownsRow base 38 4 (.slice (some ⟨g, 0, none⟩) n cap) n (ecs (m.set k x)) ∧ Moved (fun i => i = g) w (putE w g k x) := by
  have m1 : ∀ (v : World) (i : Nat) (u : Value), Moved (fun j => j = g) v (v.setCell ⟨g, i, none⟩ u) := fun v i u => Moved.setCell (S := fun j => j = g) (Moved.refl _ v) (p := ⟨g, i, none⟩) (fun _ => rfl) u
  have hm : m.length = n := by have := h.1; rw [ecs_length] at this; omega
  refine ⟨⟨by rw [ecs_length, List.length_set, hm], .inr ?_⟩, (((m1 w _ _).trans (m1 _ _ _) (fun _ _ h => h)).trans (m1 _ _ _) (fun _ _ h => h)).trans (m1 _ _ _) (fun _ _ h => h)⟩
  rcases h.2 with ⟨e, _⟩ | ⟨g', cap', cur, e, hb, hg, hnc, hcm, hcs, ht⟩
  · cases e
  · simp only [Value.slice.injEq, Option.some.injEq, Addr.mk.injEq, and_true, true_and] at e
    obtain ⟨rfl, rfl⟩ := e
    have hg2 := Joins.block_setCell (Joins.block_setCell (Joins.block_setCell (Joins.block_setCell hg (i := k * 4) (str x.key)) (i := k * 4 + 1) (str x.value)) (i := k * 4 + 2) (.int .i64 x.seq)) (i := k * 4 + 3) (.bool x.del)
    refine ⟨g, cap, _, rfl, hb, hg2, hnc, hcm, by simp [hcs], ?_⟩
    simp only [Array.toList_setIfInBounds, List.take_set]
    rw [ht, ecs_set m k x hk]
/-- What Reverse has behind i rounds. -/
def revAt (l m : List Mm.Ent) (i : Nat) : Prop := m.length = l.length ∧ ∀ k (h : k < l.length) (h2 : k < m.length), m[k] = if k < i ∨ l.length - i ≤ k then l[l.length - 1 - k] else l[k]
theorem rev_zero (l : List Mm.Ent) : revAt l l 0 := ⟨rfl, fun k h _ => by rw [if_neg (by omega)]⟩
theorem rev_step {l m : List Mm.Ent} {i : Nat} (h : revAt l m i) (hi : i < m.length) (hj : l.length - 1 - i < m.length) (hlt : i < l.length - 1 - i) : revAt l ((m.set i m[l.length - 1 - i]).set (l.length - 1 - i) m[i]) (i + 1) := by
  obtain ⟨h1, h2⟩ := h
  refine ⟨by simp [h1], fun k hk hk2 => ?_⟩
  rw [List.getElem_set]
  by_cases e : l.length - 1 - i = k
  · rw [if_pos e, h2 i (by omega) hi, if_neg (by omega), if_pos (by omega)]
    congr 1; omega
  · rw [if_neg e, List.getElem_set]
    by_cases e2 : i = k
    · rw [if_pos e2, h2 _ (by omega) hj, if_neg (by omega), if_pos (by omega)]
      congr 1; omega
    · rw [if_neg e2, h2 k hk (by omega)]
      by_cases e3 : k < i ∨ l.length - i ≤ k
      · rw [if_pos e3, if_pos (by omega)]
      · rw [if_neg e3, if_neg (by omega)]
theorem rev_end {l m : List Mm.Ent} {i : Nat} (h : revAt l m i) (hi : ¬ i < l.length - 1 - i) : m = l.reverse := by
  obtain ⟨h1, h2⟩ := h
  apply List.ext_getElem (by simp [h1])
  intro k hk hk2
  rw [List.getElem_reverse, h2 k (by omega) hk]
  by_cases e : k < i ∨ l.length - i ≤ k
  · rw [if_pos e]
  · rw [if_neg e]
    congr 1; omega

set_option maxRecDepth 100000 in
set_option maxHeartbeats 8000000 in
theorem reverse_own (w : World) (base : Nat) (v : Value) (l : List Mm.Ent) (h : w.ownsRow base 38 4 v l.length (ecs l)) (hb : base ≤ w.heap.size) (hl : l.length ≤ 1000000) :
    Calls Try.prog 68 #[v] w fun e w' => (∃ u, e = .returned u) ∧ w'.ownsRow base 38 4 v l.length (ecs l.reverse) ∧ Below base w w' := by
  by_cases h0 : l.length = 0
  · have hn : l = [] := List.eq_nil_of_length_eq_zero h0
    subst hn
    obtain ⟨a, c, rfl⟩ := row_shape h
    have H := hide h
    clear h
    go_enter Try.func68, Try.ntmps68
    go_wp2_with (fail)
    refine wp_loop_rounds 1 ?_
    rw [rounds_succ]
    go_wp2_with (fail)
    go_end0
    exact ⟨⟨_, rfl⟩, H.out, Below.refl _ _⟩
  obtain ⟨g, cap, rfl⟩ := own_someE h h0
  have hgb := (h.lt g rfl).1
  obtain ⟨n, hn⟩ : ∃ n, n = l.length := ⟨_, rfl⟩
  have HN : Hid (n = l.length) := hn
  rw [← hn] at h h0 hl ⊢
  have H := hide h
  clear h hn
  go_enter Try.func68, Try.ntmps68
  go_wp2_with (fail)
  go_loopw [2, 3] (fun i j wr => ∃ (k : Nat) (m : List Mm.Ent), k ≤ n ∧ i = .int .i64 (k : Int) ∧ j = .int .i64 ((n : Int) - 1 - (k : Int)) ∧ Hid (revAt l m k) ∧ wr.ownsRow base 38 4 (.slice (some ⟨g, 0, none⟩) n cap) n (ecs m) ∧ Below base w wr) (fun i j _ => (intOf j).toNat + 1 - (intOf i).toNat)
  case atStart => exact ⟨0, l, Nat.zero_le _, rfl, by simp, rev_zero l, H.out, Below.refl _ _⟩
  case round =>
    obtain ⟨k, m, hk, rfl, rfl, HR, o, bx⟩ := hrel
    by_cases hlt : k < n - 1 - k
    · obtain ⟨q, hq⟩ : ∃ q, q = n - 1 - k := ⟨_, rfl⟩
      have hqi : (n : Int) - 1 - (k : Int) = (q : Int) := by omega
      rw [hqi]
      have hml : m.length = n := by have := HR.out.1; have := HN.out; omega
      have km : k < m.length := by omega
      have qm : q < m.length := by omega
      have EA := EntsAt.own (l := m) (by rw [hml]; exact o)
      obtain ⟨c0, c1, c2, c3⟩ := EA.cells k km
      obtain ⟨d0, d1, d2, d3⟩ := EA.cells q qm
      rw [Nat.zero_add] at c0 c1 c2 c3 d0 d1 d2 d3
      have hblk : ∃ cur, wr.heap[g]? = some (.cells cur 38 (0, 0)) := by
        rcases o.2 with ⟨e, _⟩ | ⟨g', cap', cur, e, _, hg, _⟩
        · cases e
        · simp only [Value.slice.injEq, Option.some.injEq, Addr.mk.injEq, and_true, true_and] at e
          obtain ⟨rfl, rfl⟩ := e
          exact ⟨cur, hg⟩
      obtain ⟨cur, hcur⟩ := hblk
      have fz : ∀ i, wr.frozen? ⟨g, i, none⟩ = false := fun i => Joins.unfrozen_of_block hcur i
      have f0 := fz (k * 4)
      have f1 := fz (k * 4 + 1)
      have f2 := fz (k * 4 + 2)
      have f3 := fz (k * 4 + 3)
      have g0 := fz (q * 4)
      have g1 := fz (q * 4 + 1)
      have g2 := fz (q * 4 + 2)
      have g3 := fz (q * 4 + 3)
      have HS : Hid (revAt l ((m.set k m[q]).set q m[k]) (k + 1)) := by
        have := rev_step HR.out km (by have := HN.out; omega) (by have := HN.out; omega)
        simp only [← HN.out, ← hq] at this
        exact this
      have O1 := own_put o k km m[q]
      have O2 := own_put O1.1 q (by rw [List.length_set]; exact qm) m[k]
      have OO := hide O2.1
      have OM := hide (O1.2.trans O2.2 (fun _ _ h => h))
      have i1 : (k : Int) < (q : Int) := by omega
      have i2 : (q : Int) < (n : Int) := by omega
      have i3 : (k : Int) < (n : Int) := by omega
      have i4 : (0 : Int) ≤ (k : Int) := by omega
      have i5 : (0 : Int) ≤ (q : Int) := by omega
      generalize m[k] = x at *
      generalize m[q] = y at *
      have HQ := hide hq
      clear EA fz hcur O1 O2 HR o H hq hqi
      go_wp2_with (fail)
      go_region
      go_wp2_with (fail)
      have hq := HQ.out
      have m2 := OM.out.drew
      refine ⟨⟨k + 1, _, by omega, by go_num, by congr 1; omega, HS, OO.out.drew, bx.trans (m2.under (Nat.le_trans hb bx.size) (fun i hi => by omega))⟩, by simp [intOf]; omega⟩
    · have i3 : ¬ (k : Int) < (n : Int) - 1 - (k : Int) := by omega
      have HE : Hid (m = l.reverse) := rev_end HR.out (by have := HN.out; omega)
      rw [HE.out] at o
      clear HR H
      go_wp2_with (fail)
      go_end0
      exact ⟨⟨_, rfl⟩, o, bx⟩
end Go.Proofs.Ytbdgdigpnfpnhaa.Q
namespace Go.Proofs.Ytbdgdigpnfpnhaa.Q
open Go.RowKit

structure IntsAt (w : World) (v : Value) (l : List Int) : Prop where
  form : ∃ a cap, v = .slice a l.length cap ∧ (a = none → l = [] ∧ cap = 0) ∧ (l ≠ [] → ∃ b off, a = some ⟨b, off, none⟩ ∧ ∀ j (h : j < l.length), w.cell? ⟨b, off + j, none⟩ = some (.int .i64 l[j]))
theorem IntsAt.later {w w' : World} {v : Value} {l : List Int} (h : IntsAt w v l) (hb : Below w.heap.size w w') : IntsAt w' v l := by
  obtain ⟨a, cap, e, h0, hf⟩ := h
  refine ⟨a, cap, e, h0, fun hl => ?_⟩
  obtain ⟨b, off, ha, hat⟩ := hf hl
  exact ⟨b, off, ha, fun j hj => keepC hb (hat j hj)⟩
theorem IntsAt.nil (w : World) : IntsAt w (.slice none 0 0) [] := ⟨none, 0, rfl, fun _ => ⟨rfl, rfl⟩, fun h => absurd rfl h⟩
def ics (l : List Int) : List Value := l.map fun n => Value.int .i64 n
theorem Try.infoI : (Try.prog.info? 3).map (fun i => (i.zero, i.size, i.bytes)) = some (some (.int .i64 0), 1, 8) := by kernel_rfl
theorem ics_one (l : List Int) : ∀ u ∈ ics l, u.oneCell' = true := by
  intro u hu
  obtain ⟨n, _, rfl⟩ := List.mem_map.1 hu
  rfl

theorem ics_length (l : List Int) : (ics l).length = l.length := by simp [ics]
theorem ints_cells {w : World} {ad : Addr} {k c : Nat} {B : List Int} (h : IntsAt w (.slice (some ad) k c) B) (j : Nat) (u : Value) (hu : (ics B)[j]? = some u) : w.cell? (ad.add j) = some u := by
  have hj : j < B.length := by
    have := (List.getElem?_eq_some_iff.1 hu).1
    rwa [ics_length] at this
  obtain ⟨a', c', e, _, hf⟩ := h
  obtain ⟨b, off, ha, hat⟩ := hf (fun e => by rw [e] at hj; simp at hj)
  cases e
  cases ha
  have hadd : (⟨b, off, none⟩ : Addr).add j = ⟨b, off + j, none⟩ := by unfold Addr.add; split <;> simp_all
  rw [hadd, hat j hj, ← hu]
  simp [ics, hj]
theorem wpList_app_ints (w : World) {ops : Array Oper} {rest : List Oper} {o : Oper} {a : Act} {Q : Exit → Act → World → Prop} (hg : o.guard = none) (s x : Operand)
    (hop : o.op = .call { callee := .builtin .append, args := #[s, x], argTypes := #[22, 22] })
    (base g cap : Nat) (A B : List Int) (n k c : Nat) (hn : n = A.length) (hk : k = B.length) (hs : a.eval s = .slice (some ⟨g, 0, none⟩) n cap) (hown : w.ownsRow base 3 1 (.slice (some ⟨g, 0, none⟩) n cap) n (ics A))
    (ao : Option Addr) (hx : a.eval x = .slice ao k c) (hin : IntsAt w (.slice ao k c) B) (hroom : n + k ≤ 1000000) (hbase : base ≤ w.heap.size)
    (h : ∀ g' cap' w', w'.ownsRow base 3 1 (.slice (some ⟨g', 0, none⟩) (n + k) cap') (n + k) (ics (A ++ B)) → w.grownBy w' (some g) → wpList Try.prog ops Q rest (a.put o.dst (.slice (some ⟨g', 0, none⟩) (n + k) cap')) w') :
    wpList Try.prog ops Q (o :: rest) a w := by
  obtain ⟨i0, hi, hz0, hz1, hz2⟩ := info_parts Try.infoI
  have hic : ics (A ++ B) = ics A ++ ics B := by simp [ics]
  by_cases hb0 : B = []
  · subst hb0
    subst hk
    have hnc : n ≤ cap := by
      rcases hown.2 with ⟨e, _⟩ | ⟨g', cap', cur, e, _, _, hnc, _⟩
      · cases e
      · simp only [Value.slice.injEq] at e; omega
    refine wpList_append_fits_any w hg s x 22 hop base 3 i0 1 Try.underlying22 hi hz1 g n cap (ics A) hs hown ao 0 c [] hx rfl (fun e => ?_) (fun ad _ j u hj => by simp at hj) (by simp) (by omega) ?_
    · obtain ⟨a', c', e', h0, _⟩ := hin
      cases e'
      exact ⟨rfl, (h0 e).2⟩
    · intro w' h1 h2
      refine h g cap w' ?_ h2
      rw [hic]
      exact h1
  · have hsome : ∃ ad, ao = some ad := by
      obtain ⟨a', c', e', _, hf⟩ := hin
      obtain ⟨b, off, ha, _⟩ := hf hb0
      cases e'
      exact ⟨_, ha⟩
    obtain ⟨ad, rfl⟩ := hsome
    refine wpList_append_lies w hg s x 22 hop base 3 i0 _ 1 8 Try.underlying22 hi hz0 hz1 hz2 rfl (by decide) _ n (ics A) hs hown ad k c (ics B) hx (by rw [ics_length, hk]; omega) (fun j u hu => ints_cells hin j u hu) (ics_one B) (by rw [hk]; exact List.length_pos_iff.2 hb0) (by unfold maxLen; omega) (by omega) hbase w.heap.size rfl ?_
    intro g' cap' w' h1 h2 _ _
    refine h g' cap' w' ?_ h2
    rw [hic]
    exact h1
/-- The numbers that are asked, in a row of the call's own. -/
structure AskedAt (base : Nat) (w0 w : World) (v : Value) (A : List Int) : Prop where
  own : w.ownsRow base 3 1 v A.length (ics A)
  bel : Below base w0 w
theorem AskedAt.parts {base : Nat} {w0 w : World} {g n cap : Nat} {A : List Int} (h : AskedAt base w0 w (.slice (some ⟨g, 0, none⟩) n cap) A) : (∀ j (h : j < A.length), w.cell? ⟨g, j, none⟩ = some (.int .i64 A[j])) ∧ (∀ j, w.frozen? ⟨g, j, none⟩ = false) ∧ g < w.heap.size ∧ base ≤ g ∧ n = A.length := by
  have hl := h.own.lt g rfl
  have hn : n = A.length := by
    rcases h.own.2 with ⟨e, _⟩ | ⟨g', cap', cur, e, _⟩
    · cases e
    · simp only [Value.slice.injEq] at e; exact e.2.1
  subst hn
  refine ⟨fun j hj => ?_, fun j => ?_, hl.2, hl.1, rfl⟩
  · rw [h.own.cellAt j (show j < A.length * 1 by omega)]
    simp [ics, hj]
  · rcases h.own.2 with ⟨e, _⟩ | ⟨g', cap', cur, e, _, hg, _⟩
    · cases e
    · simp only [Value.slice.injEq, Option.some.injEq, Addr.mk.injEq, and_true, true_and] at e
      obtain ⟨rfl, _⟩ := e
      exact Joins.unfrozen_of_block hg j

set_option maxRecDepth 100000 in
set_option maxHeartbeats 8000000 in
theorem fold_any (w : World) (a : Option Addr) (c n : Nat) (l : List Mm.Ent) (h : EntsAt w (.slice a n c) l) (hn : n = l.length) (hl : n ≤ 100000) (hk : ∀ x ∈ l, x.key.length ≤ 1000000 ∧ x.value.length ≤ 1000000) (ka : Option Addr) (kc kn : Nat) (keep : List Int) (hkeep : IntsAt w (.slice ka kn kc) keep) (hkn : kn = keep.length) (hkl : kn ≤ 100000) (last : Bool) :
    Calls Try.prog 29 #[.slice a n c, .slice ka kn kc, .bool last] w fun e w' => ∃ v, e = .returned v ∧ w'.ownsRow w.heap.size 38 4 v (Bk.foldR (1073741824 :: keep) last none l).length (ecs (Bk.foldR (1073741824 :: keep) last none l)) ∧ Below w.heap.size w w' := by
  obtain ⟨j0, hj, hy0, hy1, hy2⟩ := info_parts Try.infoI
  obtain ⟨i0, hi, hz0, hz1, hz2⟩ := info_parts infoE
  -- the numbers that are asked
  have L0 : (w.alloc (.cells #[.int .i64 1073741824] 3)).ownsRow w.heap.size 3 1 (.slice (some ⟨w.heap.size, 0, none⟩) 1 1) 1 (ics [1073741824]) := World.ownsRow_lit (size := 1) (e := 3) (base := w.heap.size) w #[.int .i64 1073741824] 1 (Nat.le_refl _) (by unfold maxLen; omega) rfl
  have b0 : Below w.heap.size w (w.alloc (.cells #[.int .i64 1073741824] 3)) := (Below.refl _ _).alloc (Nat.le_refl _) _
  have K0 := hkeep.later b0
  have HL0 := hide L0
  have HK0 := hide K0
  have HK := hide hkeep
  have H := hide h
  have HN : Hid (n = l.length) := hn
  have HKN : Hid (kn = keep.length) := hkn
  have OX : Hid (∀ wx, ∀ x ∈ l, Calls Try.prog 63 #[entV x] wx fun e w' => e = .returned (entV x) ∧ Below wx.heap.size wx w') := fun wx x hx => own_e wx x (hk x hx).1 (hk x hx).2
  clear h hkeep L0 b0 K0 hn hkn hk
  go_enter Try.func29, Try.ntmps29
  go_wp2_with (first
    | (at_builtin; refine wpList_app_ints _ rfl _ _ rfl w.heap.size w.heap.size 1 [1073741824] keep 1 kn kc rfl HKN.out rfl HL0.out ka rfl HK0.out (by omega) (by simp) ?_; intro g1 cap1 w1 o1 h1))
  have B1 : Below w.heap.size w w1 := ((Below.refl _ _).alloc (Nat.le_refl _) _).grown h1 (by simp) (fun k hk => by cases hk; exact Nat.le_refl _)
  have hA : 1 + kn = (1073741824 :: keep).length := by rw [List.length_cons, ← HKN.out]; omega
  have AA : AskedAt w.heap.size w w1 (.slice (some ⟨g1, 0, none⟩) (1 + kn) cap1) (1073741824 :: keep) := ⟨by have h2 := o1; rw [List.singleton_append] at h2; rw [← hA]; exact h2, B1⟩
  obtain ⟨p1, p2, p3, p4, p5⟩ := AA.parts
  clear p5
  have SR := sort_ints w1 g1 cap1 (1073741824 :: keep) p1 p2 p3 (by omega)
  rw [← hA] at SR
  refine SR.mono ?_
  rintro e w2 ⟨S, rfl, HS, hS, m2⟩
  have B2 : Below w.heap.size w w2 := B1.trans (m2.under B1.size (fun i hi => by omega))
  have hSl : S.length = 1 + kn := HS.out.2.2
  have EA := H.out.later B2
  have IS := hide hS
  have HEA := hide EA
  have HA := hide hA
  generalize hAA : (1073741824 :: keep : List Int) = A at *
  have HP : Hid (S.Perm A ∧ S.Pairwise (· ≤ ·)) := ⟨HS.out.1, HS.out.2.1⟩
  have ST : Hid (∀ wx, Below w2.heap.size w2 wx → ∀ i (hi : i < l.length), Calls Try.prog 67 #[.slice a n c, .int .i64 (i : Int), .slice (some ⟨g1, 0, none⟩) (1 + kn) cap1] wx fun e w' => e = .returned (.bool (Bk.staysB A (predE l i) l[i])) ∧ Below wx.heap.size wx w') := fun wx hx i hi => by
    have := stays_any wx a c n l (HEA.out.later hx) HN.out (by omega) i hi g1 cap1 S A (IS.out.later hx) HP.out.1 HP.out.2 (by omega)
    rw [hSl] at this
    exact this
  clear SR AA p1 p2 HS hS m2 HL0 HK0 HK H EA IS HP o1 h1 B1 hA hSl
  go_wp2_with (fail)
  go_loopw [8, 9] (fun v i wr => ∃ q : Nat, q ≤ n ∧ i = .int .i64 ((q : Int) - 1) ∧ wr.ownsRow w2.heap.size 38 4 v (Bk.foldR A last (predE l q) (l.drop q)).length (ecs (Bk.foldR A last (predE l q) (l.drop q)).reverse) ∧ Below w2.heap.size w2 wr) (fun _ i _ => (intOf i + 1).toNat)
  case atStart =>
    refine ⟨n, Nat.le_refl _, rfl, ?_, Below.refl _ _⟩
    rw [HN.out, List.drop_length, Bk.foldR]
    exact World.ownsRow_nil _ _ _ _
  case round =>
    obtain ⟨q, hq, rfl, o, bx⟩ := hrel
    cases q with
    | zero =>
      rw [List.drop_zero] at o
      have RV := reverse_own wr w2.heap.size _ (Bk.foldR A last (predE l 0) l).reverse (by rw [List.length_reverse]; exact o) bx.size (by
        have := (Bk.fold_sub A last l (predE l 0)).length_le
        rw [List.length_reverse]
        have := HN.out
        omega)
      rw [List.reverse_reverse, List.length_reverse] at RV
      have RV' := hide RV
      clear RV o ST OX HEA
      go_wp2_with (first
        | (go_at_call 68; refine RV'.out.mono ?_; rintro e w3 ⟨⟨u3, rfl⟩, o3, b3⟩; clear RV'))
      go_ret
      rw [hAA]
      exact ⟨_, rfl, own_lift o3 B2.size, B2.trans ((bx.trans b3).mono B2.size)⟩
    | succ k =>
      have kl : k < l.length := by have := HN.out; omega
      obtain ⟨b, off, rfl⟩ := (HEA.out).some (by omega)
      obtain ⟨c0, c1, c2, c3⟩ := (HEA.out.later bx).cells k kl
      have hdr : l.drop k = l[k] :: l.drop (k + 1) := List.drop_eq_getElem_cons kl
      have hpe : predE l (k + 1) = some l[k] := List.getElem?_eq_getElem kl
      have HF : Hid (Bk.foldR A last (predE l k) (l.drop k) = if Bk.staysB A (predE l k) l[k] && !(last && !decide ((Bk.foldR A last (some l[k]) (l.drop (k + 1))).head?.map (·.key) = some l[k].key) && l[k].del) then l[k] :: Bk.foldR A last (some l[k]) (l.drop (k + 1)) else Bk.foldR A last (some l[k]) (l.drop (k + 1))) := by show _ = _; rw [hdr, Bk.foldR]
      rw [hpe] at o
      have hol : (Bk.foldR A last (some l[k]) (l.drop (k + 1))).length ≤ n := by
        have := (Bk.fold_sub A last (l.drop (k + 1)) (some l[k])).length_le
        rw [List.length_drop] at this
        have := HN.out
        omega
      have SX := hide (fun wx hx => ST.out wx hx k kl)
      have OK := hide (fun wx => OX.out wx l[k] (List.getElem_mem kl))
      have hki : ((k + 1 : Nat) : Int) - 1 = (k : Int) := by omega
      rw [hki]
      generalize Bk.staysB A (predE l k) l[k] = st at *
      generalize Bk.foldR A last (some l[k]) (l.drop (k + 1)) = oo at *
      generalize l[k] = x at *
      have z1 : (k : Int) < (n : Int) := by omega
      have z2 : (0 : Int) ≤ (k : Int) := by omega
      obtain ⟨K, V, Q, D⟩ := x
      simp only at c0 c1 c2 c3 HF
      clear hdr hpe hki ST OX
      go_wp2_with (fail)
      have O1 := hide o
      have old : Hid (∀ y o', oo = y :: o' → (!decide (oo.head?.map (·.key) = some K)) = (!y.key == K)) := fun y o' e => by
        rw [e]
        by_cases e2 : y.key = K
        · simp [e2]
        · simp [e2]
      generalize hOB : (!decide (oo.head?.map (·.key) = some K)) = ob at *
      have HOB := hide hOB
      clear hOB
      go_cut [10] from 24 to 41 (fun z wx => z = .bool ob ∧ Below wr.heap.size wr wx)
      case first =>
        cases oo with
        | nil =>
          have hob : ob = true := HOB.out.symm
          subst hob
          obtain ⟨a', c', rfl⟩ := row_shape o
          clear o O1 HF SX OK old HOB
          go_quiet (fail)
          go_wp2_with (fail)
          go_meet
          case rel => exact ⟨rfl, below_drewN (Below.refl _ _) _⟩
        | cons y o' =>
          have hob := old.out y o' rfl
          have hcl := EntsAt.own (l := (y :: o').reverse) (by rw [List.length_reverse]; exact o)
          rw [List.length_cons] at o
          obtain ⟨g, cap, rfl⟩ := own_someE o (by omega)
          rw [List.reverse_cons] at hcl
          have d1 := last_cell hcl
          rw [List.length_reverse] at d1
          rw [List.length_cons] at hol
          have HO := hide hob
          clear o O1 HF SX OK old HOB hcl hob
          generalize o'.length = kk at *
          generalize y.key = YK at *
          have q1 : ((kk : Int) + 1 == 0) = false := by simp; omega
          have q2 : (kk : Int) < ((kk + 1 : Nat) : Int) := by omega
          have q3 : (0 : Int) ≤ (kk : Int) := by omega
          have hK : (!YK == K) = true ∨ (!YK == K) = false := by cases (!YK == K) <;> simp
          rcases hK with hK | hK
          · go_quiet (fail)
            go_wp2_with (fail)
            go_meet
            case rel => exact ⟨by rw [HO.out, hK], below_drewN (Below.refl _ _) _⟩
          · go_quiet (fail)
            go_wp2_with (fail)
            go_meet
            case rel => exact ⟨by rw [HO.out, hK], below_drewN (Below.refl _ _) _⟩
      case rest =>
        obtain ⟨rfl, b3⟩ := hcut
        have o3 := hide (own_after O1.out b3)
        have B3 := bx.trans (b3.mono bx.size)
        obtain ⟨e0, e1, e2, e3⟩ : wc.cell? ⟨b, off + k * 4, none⟩ = some (str K) ∧ wc.cell? ⟨b, off + k * 4 + 1, none⟩ = some (str V) ∧ wc.cell? ⟨b, off + k * 4 + 2, none⟩ = some (.int .i64 Q) ∧ wc.cell? ⟨b, off + k * 4 + 3, none⟩ = some (.bool D) := ⟨keepC b3 c0, keepC b3 c1, keepC b3 c2, keepC b3 c3⟩
        have HQ : Hid (Bk.foldR A last (predE l k) (l.drop k) = if st && !(last && ob && D) then ⟨K, V, Q, D⟩ :: oo else oo) := HF
        clear HF old HOB o O1 c0 c1 c2 c3 b3 bx
        obtain ⟨w4, hw4⟩ : ∃ w4, w4 = wc := ⟨_, rfl⟩
        rw [← hw4] at o3 B3 e0 e1 e2 e3 ⊢
        clear hw4
        have CN : Hid (∀ W : World, ∀ B, B = W.heap.size → ∀ i u, (ecs [⟨K, V, Q, D⟩])[i]? = some u → (W.alloc (.cells #[str K, str V, .int .i64 Q, .bool D] 38)).cell? ((⟨B, 0, none⟩ : Addr).add i) = some u) := fun W B hB => ec_new W ⟨K, V, Q, D⟩ B hB
        have HL : Hid ((ecs [⟨K, V, Q, D⟩]).length = 1 * 4) := rfl
        have HO : Hid (∀ u ∈ ecs [⟨K, V, Q, D⟩], u.oneCell' = true) := ecs_one _
        have Z1 : Hid (oo.length + 1 ≤ maxLen) := by show _ ≤ _; unfold maxLen; omega
        have Z2 : Hid ((oo.length + 1) * 48 ≤ 140737488355328) := by show _ ≤ _; omega
        have SY := hide (SX.out w4 B3)
        clear SX
        cases last <;> cases ob <;> cases D <;> cases st <;>
          first
          | (have HT : Hid (Bk.foldR A _ (predE l k) (l.drop k) = oo) := HQ.out
             clear HQ CN HL HO Z1 Z2 OK
             go_wp2_with (first
               | (go_at_call 67; refine SY.out.mono ?_; rintro e w5 ⟨rfl, b5⟩; clear SY))
             have B5 := B3.trans (b5.mono B3.size)
             refine ⟨⟨k, by omega, rfl, ?_, B5⟩, by simp [intOf]⟩
             rw [HT.out]
             exact own_after o3.out b5)
          | (have HT : Hid (Bk.foldR A _ (predE l k) (l.drop k) = ⟨K, V, Q, _⟩ :: oo) := HQ.out
             clear HQ
             go_wp2_with (first
               | (go_at_call 67; refine SY.out.mono ?_; rintro e w5 ⟨rfl, b5⟩; have B5 := B3.trans (b5.mono B3.size); have o5 := hide (own_after o3.out b5); obtain ⟨f0, f1, f2, f3⟩ := And.intro (keepC b5 e0) (And.intro (keepC b5 e1) (And.intro (keepC b5 e2) (keepC b5 e3))); clear SY)
               | (go_at_call 63; refine (OK.out _).mono ?_; rintro e w6 ⟨rfl, b6⟩; have B6 := B5.trans (b6.mono B5.size); have o6 := hide (own_after o5.out b6); clear OK)
               | (at_builtin; refine wpList_append_lies _ rfl _ _ 23 rfl w2.heap.size 38 i0 _ 4 48 Try.underlying23 hi hz0 hz1 hz2 rfl (by decide) _ oo.length _ rfl (o6.out.alloc _) ⟨w6.heap.size, 0, none⟩ 1 1 (ecs [⟨K, V, Q, _⟩]) rfl HL.out (CN.out _ _ rfl) HO.out (by decide) Z1.out Z2.out (by have := B6.size; simp; omega) _ rfl ?_; intro g7 cap7 w7 o7 h7 l7 lt7))
             have B7 : Below w2.heap.size w2 w7 := (B6.alloc B6.size _).grown h7 (by have := B6.size; simp; omega) (fun k hk => (o6.out.lt k hk).1)
             refine ⟨⟨k, by omega, rfl, ?_, B7⟩, by simp [intOf]⟩
             rw [HT.out, List.reverse_cons, ecs_append, List.length_cons]
             exact o7)
end Go.Proofs.Ytbdgdigpnfpnhaa.Q
namespace Go.Proofs.Ytbdgdigpnfpnhaa.Q
open Go.RowKit

theorem ints_own {w : World} {base : Nat} {v : Value} {l : List Int} (h : w.ownsRow base 3 1 v l.length (ics l)) : IntsAt w v l := by
  obtain ⟨a, c, hv⟩ := row_shape h
  subst hv
  rcases h.2 with ⟨e, h0⟩ | ⟨g, cap, cur, e, _⟩
  · simp only [Value.slice.injEq] at e
    exact ⟨a, c, rfl, fun _ => ⟨List.eq_nil_of_length_eq_zero h0, e.2.2⟩, fun hl => absurd (List.eq_nil_of_length_eq_zero h0) hl⟩
  · simp only [Value.slice.injEq] at e
    obtain ⟨rfl, _, rfl⟩ := e
    refine ⟨_, c, rfl, (fun e => by cases e), fun hl => ⟨g, 0, rfl, fun j hj => ?_⟩⟩
    rw [Nat.zero_add, h.cellAt j (by omega)]
    simp [ics, hj]

set_option maxRecDepth 100000 in
theorem copyInts_any (w : World) (a : Option Addr) (c n : Nat) (l : List Int) (h : IntsAt w (.slice a n c) l) (hn : n = l.length) (hl : n ≤ 100000) :
    Calls Try.prog 34 #[.slice a n c] w fun e w' => ∃ g cap, e = .returned (.slice (some ⟨g, 0, none⟩) n cap) ∧ w'.ownsRow w.heap.size 3 1 (.slice (some ⟨g, 0, none⟩) n cap) n (ics l) ∧ Below w.heap.size w w' := by
  have L0 : (w.alloc (.cells #[] 3)).ownsRow w.heap.size 3 1 (.slice (some ⟨w.heap.size, 0, none⟩) 0 0) 0 (ics []) := World.ownsRow_lit (size := 1) (e := 3) (base := w.heap.size) w #[] 0 (Nat.le_refl _) (by unfold maxLen; omega) rfl
  have b0 : Below w.heap.size w (w.alloc (.cells #[] 3)) := (Below.refl _ _).alloc (Nat.le_refl _) _
  have HL0 := hide L0
  have HA := hide (h.later b0)
  have HN : Hid (n = l.length) := hn
  clear L0 h hn b0
  go_enter Try.func34, Try.ntmps34
  go_wp2_with (first
    | (at_builtin; refine wpList_app_ints _ rfl _ _ rfl w.heap.size w.heap.size 0 [] l 0 n c rfl HN.out rfl HL0.out a rfl HA.out (by omega) (by simp) ?_; intro g1 cap1 w1 o1 h1))
  have B1 : Below w.heap.size w w1 := ((Below.refl _ _).alloc (Nat.le_refl _) _).grown h1 (by simp) (fun k hk => by cases hk; exact Nat.le_refl _)
  simp only [Nat.zero_add, List.nil_append] at o1 ⊢
  go_ret
  exact ⟨g1, cap1, rfl, o1, B1⟩

def lentI (l : List Int) (k : Nat) : List Int := l ++ (List.range k).map (fun i : Nat => (7777777 : Int) + Int.ofNat i)
theorem lentI_next (l : List Int) (k : Nat) : lentI l (k + 1) = lentI l k ++ [7777777 + (k : Int)] := by
  unfold lentI
  rw [List.range_succ, List.map_append, List.append_assoc]
  rfl
theorem lentI_len (l : List Int) (k : Nat) : (lentI l k).length = l.length + k := by simp [lentI]

set_option maxRecDepth 100000 in
set_option maxHeartbeats 2000000 in
theorem lentInts_any (w : World) (a : Option Addr) (c n : Nat) (l : List Int) (h : IntsAt w (.slice a n c) l) (hn : n = l.length) (hl : n ≤ 100000) :
    Calls Try.prog 7 #[.slice a n c] w fun e w' => ∃ g cap, e = .returned (.slice (some ⟨g, 0, none⟩) (n + 3) cap) ∧ w'.ownsRow w.heap.size 3 1 (.slice (some ⟨g, 0, none⟩) (n + 3) cap) (n + 3) (ics (lentI l 3)) ∧ Below w.heap.size w w' := by
  obtain ⟨i0, hi, hz0, hz1, hz2⟩ := info_parts Try.infoI
  have CP := hide (copyInts_any w a c n l h hn hl)
  have HN := hide hn
  clear h hn
  go_enter Try.func7, Try.ntmps7
  go_wp2_with (go_at_call 34; refine CP.out.mono ?_; rintro e w1 ⟨g1, cap1, rfl, o1, B1⟩; clear CP)
  have O1 : w1.ownsRow w.heap.size 3 1 (.slice (some ⟨g1, 0, none⟩) (n + 0) cap1) (n + 0) (ics (lentI l 0)) := by
    have : lentI l 0 = l := by simp [lentI]
    rw [this]; exact o1
  clear o1
  go_loopw [3, 4] (fun v i wr => ∃ (j g cap : Nat), j ≤ 3 ∧ i = .int .i64 (j : Int) ∧ v = .slice (some ⟨g, 0, none⟩) (n + j) cap ∧ wr.ownsRow w.heap.size 3 1 (.slice (some ⟨g, 0, none⟩) (n + j) cap) (n + j) (ics (lentI l j)) ∧ Below w.heap.size w wr) (fun _ i _ => 3 - (intOf i).toNat)
  case atStart => exact ⟨0, g1, cap1, by omega, rfl, rfl, O1, B1⟩
  case round =>
    obtain ⟨j, g, cap, hj, rfl, rfl, o, bx⟩ := hrel
    clear O1 B1
    by_cases hlt : j < 3
    · have O := hide o
      have HLE := hide (lentI_next l j)
      have wj : IntKind.i64.wrap (7777777 + (j : Int)) = 7777777 + (j : Int) := by rw [IntKind.wrap_i64]; omega
      have CN : Hid (∀ W : World, ∀ B, B = W.heap.size → ∀ i u, (ics [7777777 + (j : Int)])[i]? = some u → (W.alloc (.cells #[.int .i64 (7777777 + (j : Int))] 3)).cell? ((⟨B, 0, none⟩ : Addr).add i) = some u) := by
        rintro W B rfl i u hu
        have hi0 : i = 0 := by
          rcases i with _ | i
          · rfl
          · simp [ics] at hu
        subst hi0
        have hadd : (⟨W.heap.size, 0, none⟩ : Addr).add 0 = ⟨W.heap.size, 0, none⟩ := by unfold Addr.add; split <;> simp_all
        rw [hadd]
        refine (Joins.cell_of_block (World.alloc_heap_new W _) 0).trans ?_
        rw [← hu]; rfl
      have HL : Hid ((ics [7777777 + (j : Int)]).length = 1 * 1) := rfl
      have HO : Hid (∀ u ∈ ics [7777777 + (j : Int)], u.oneCell' = true) := ics_one _
      have Z1 : Hid (n + j + 1 ≤ maxLen) := by show _ ≤ _; unfold maxLen; omega
      have Z2 : Hid ((n + j + 1) * 8 ≤ 140737488355328) := by show _ ≤ _; omega
      have i1 : (j : Int) < 3 := by omega
      clear o
      go_wp2_with (first
        | (at_builtin; refine wpList_append_lies _ rfl _ _ 22 rfl w.heap.size 3 i0 _ 1 8 Try.underlying22 hi hz0 hz1 hz2 rfl (by decide) _ (n + j) _ rfl (O.out.alloc _) ⟨wr.heap.size, 0, none⟩ 1 1 (ics [7777777 + (j : Int)]) rfl HL.out (CN.out _ _ rfl) HO.out (by decide) Z1.out Z2.out (by have := bx.size; simp; omega) _ rfl ?_; intro g7 cap7 w7 o7 h7 l7 lt7))
      have B7 : Below w.heap.size w w7 := (bx.alloc bx.size _).grown h7 (by have := bx.size; simp; omega) (fun k hk => (O.out.lt k hk).1)
      refine ⟨⟨j + 1, g7, cap7, by omega, by go_num, rfl, ?_, B7⟩, by simp [intOf]; omega⟩
      rw [HLE.out]
      have : ics (lentI l j ++ [7777777 + (j : Int)]) = ics (lentI l j) ++ ics [7777777 + (j : Int)] := by simp [ics]
      rw [this]
      exact o7
    · have e : j = 3 := by omega
      subst e
      go_wp2_with (fail)
      go_ret
      exact ⟨g, cap, rfl, o, bx⟩
set_option maxHeartbeats 1600000 in
theorem samei_some (w : World) (b off cap b2 off2 cap2 : Nat) (l : List Int) (hv : ∀ j (h : j < l.length), w.cell? ⟨b, off + j, none⟩ = some (.int .i64 l[j])) (hv2 : ∀ j (h : j < l.length), w.cell? ⟨b2, off2 + j, none⟩ = some (.int .i64 l[j])) (hlen : l.length ≤ 1000000) :
    Calls Try.prog 36 #[.slice (some ⟨b, off, none⟩) l.length cap, .slice (some ⟨b2, off2, none⟩) l.length cap2] w fun e w' => e = .returned (.bool true) ∧ Below w.heap.size w w' := by
  go_enter Try.func36, Try.ntmps36
  go_wp2
  go_loopw [5] (fun i wr => ∃ j : Nat, j ≤ l.length ∧ i = .int .i64 j ∧ Below w.heap.size w wr) (fun i _ => l.length - (intOf i).toNat)
  case atStart => exact ⟨0, Nat.zero_le _, rfl, Below.refl _ _⟩
  case round =>
    obtain ⟨j, hj, rfl, hbel⟩ := hrel
    by_cases hlt : j < l.length
    · have d0 := keepC (Below.mono hbel (Nat.le_refl _)) (hv j hlt)
      have e0 := keepC (Below.mono hbel (Nat.le_refl _)) (hv2 j hlt)
      generalize l[j] = c at d0 e0
      clear hv hv2
      go_wp2
      go_quiet (fail)
      go_wp2
      go_roundw
      case rel => exact ⟨j + 1, by omega, by go_num, below_drewN hbel _⟩
      case measure => simp [intOf]; omega
    · go_wp2
      go_ret
      exact ⟨rfl, hbel⟩
set_option maxHeartbeats 800000 in
theorem samei_none (w : World) (a a2 : Option Addr) (cap cap2 : Nat) :
    Calls Try.prog 36 #[.slice a 0 cap, .slice a2 0 cap2] w fun e w' => e = .returned (.bool true) ∧ w' = w := by
  go_enter Try.func36, Try.ntmps36
  go_wp2
  refine wp_loop_rounds 1 ?_
  rw [rounds_succ]
  go_wp2
  go_ret
  exact ⟨rfl, rfl⟩
theorem samei_any (w : World) (v v2 : Value) (l : List Int) (h : IntsAt w v l) (h2 : IntsAt w v2 l) (hlen : l.length ≤ 1000000) :
    Calls Try.prog 36 #[v, v2] w fun e w' => e = .returned (.bool true) ∧ Below w.heap.size w w' := by
  obtain ⟨a, cap, rfl, _, hf⟩ := h
  obtain ⟨a2, cap2, rfl, _, hf2⟩ := h2
  by_cases h0 : l = []
  · subst h0
    refine (samei_none w a a2 cap cap2).mono ?_
    rintro e w' ⟨rfl, rfl⟩
    exact ⟨rfl, Below.refl _ _⟩
  · obtain ⟨b, off, rfl, hv⟩ := hf h0
    obtain ⟨b2, off2, rfl, hv2⟩ := hf2 h0
    exact samei_some w b off cap b2 off2 cap2 l hv hv2 hlen

set_option maxRecDepth 100000 in
theorem keptInts_any (w : World) (a : Option Addr) (c n : Nat) (l : List Int) (h : IntsAt w (.slice a n c) l) (hn : n = l.length) (hl : n ≤ 100000) (v : Value) (hv : IntsAt w v (lentI l 3)) :
    Calls Try.prog 10 #[v, .slice a n c] w fun e w' => e = .returned (.bool true) ∧ Below w.heap.size w w' := by
  have LE := hide (lentInts_any w a c n l h hn hl)
  have SE : Hid (∀ wx u, Below w.heap.size w wx → IntsAt wx u (lentI l 3) → Calls Try.prog 36 #[v, u] wx fun e w' => e = .returned (.bool true) ∧ Below wx.heap.size wx w') := fun wx u hx hu => samei_any wx v u _ (hv.later hx) hu (by rw [lentI_len]; omega)
  have HN : Hid (n + 3 = (lentI l 3).length) := by show _ = _; rw [lentI_len, hn]
  clear h hn hv
  go_enter Try.func10, Try.ntmps10
  go_wp2_with (first
    | (go_at_call 7; refine LE.out.mono ?_; rintro e w1 ⟨g1, c1, rfl, o1, b1⟩; clear LE)
    | (go_at_call 36; refine (SE.out _ _ b1 (by rw [HN.out] at o1 ⊢; exact ints_own o1)).mono ?_; rintro e w2 ⟨rfl, b2⟩))
  go_ret
  exact ⟨rfl, b1.trans (b2.mono b1.size)⟩
end Go.Proofs.Ytbdgdigpnfpnhaa.Q
