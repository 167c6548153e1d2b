/-
  slices.Reverse of entries that a call owns.
-/
import Derived.Test.YtbdgdigpnfpnhaaBVis
namespace Go.Proofs.Ytbdgdigpnfpnhaa
open Go.RowKit

theorem ecs_set : ∀ (m : List Mm.Ent) (k : Nat) (x : Mm.Ent), k < m.length → ((((ecs m).set (k * 4) (str x.key)).set (k * 4 + 1) (str x.value)).set (k * 4 + 2) (.int .i64 x.seq)).set (k * 4 + 3) (.bool x.del) = ecs (m.set k x)
  | [], k, x, h => by simp at h
  | a :: r, 0, x, _ => rfl
  | a :: r, k + 1, x, h => by
    have ih := ecs_set r k x (by simpa using h)
    have e : ecs (a :: r) = str a.key :: str a.value :: .int .i64 a.seq :: .bool a.del :: ecs r := rfl
    have e2 : ecs ((a :: r).set (k + 1) x) = str a.key :: str a.value :: .int .i64 a.seq :: .bool a.del :: ecs (r.set k x) := rfl
    have e1 : (k + 1) * 4 = k * 4 + 1 + 1 + 1 + 1 := by omega
    rw [e2, e, e1, ← ih]
    rfl
/-- An entry put into its place, in a row that the call owns. -/
abbrev putE (w : World) (g k : Nat) (x : Mm.Ent) : World := (((w.setCell ⟨g, k * 4, none⟩ (str x.key)).setCell ⟨g, k * 4 + 1, none⟩ (str x.value)).setCell ⟨g, k * 4 + 2, none⟩ (.int .i64 x.seq)).setCell ⟨g, k * 4 + 3, none⟩ (.bool x.del)
theorem own_put {w : World} {base g n cap : Nat} {m : List Mm.Ent} (h : w.ownsRow base 38 4 (.slice (some ⟨g, 0, none⟩) n cap) n (ecs m)) (k : Nat) (hk : k < m.length) (x : Mm.Ent) :
    (putE w g k x).ownsRow base 38 4 (.slice (some ⟨g, 0, none⟩) n cap) n (ecs (m.set k x)) ∧ Moved (fun i => i = g) w (putE w g k x) := by
  have m1 : ∀ (v : World) (i : Nat) (u : Value), Moved (fun j => j = g) v (v.setCell ⟨g, i, none⟩ u) := fun v i u => Moved.setCell (S := fun j => j = g) (Moved.refl _ v) (p := ⟨g, i, none⟩) (fun _ => rfl) u
  have hm : m.length = n := by have := h.1; rw [ecs_length] at this; omega
  refine ⟨⟨by rw [ecs_length, List.length_set, hm], .inr ?_⟩, (((m1 w _ _).trans (m1 _ _ _) (fun _ _ h => h)).trans (m1 _ _ _) (fun _ _ h => h)).trans (m1 _ _ _) (fun _ _ h => h)⟩
  rcases h.2 with ⟨e, _⟩ | ⟨g', cap', cur, e, hb, hg, hnc, hcm, hcs, ht⟩
  · cases e
  · simp only [Value.slice.injEq, Option.some.injEq, Addr.mk.injEq, and_true, true_and] at e
    obtain ⟨rfl, rfl⟩ := e
    have hg2 := Joins.block_setCell (Joins.block_setCell (Joins.block_setCell (Joins.block_setCell hg (i := k * 4) (str x.key)) (i := k * 4 + 1) (str x.value)) (i := k * 4 + 2) (.int .i64 x.seq)) (i := k * 4 + 3) (.bool x.del)
    refine ⟨g, cap, _, rfl, hb, hg2, hnc, hcm, by simp [hcs], ?_⟩
    simp only [Array.toList_setIfInBounds, List.take_set]
    rw [ht, ecs_set m k x hk]
/-- What Reverse has behind i rounds. -/
def revAt (l m : List Mm.Ent) (i : Nat) : Prop := m.length = l.length ∧ ∀ k (h : k < l.length) (h2 : k < m.length), m[k] = if k < i ∨ l.length - i ≤ k then l[l.length - 1 - k] else l[k]
theorem rev_zero (l : List Mm.Ent) : revAt l l 0 := ⟨rfl, fun k h _ => by rw [if_neg (by omega)]⟩
theorem rev_step {l m : List Mm.Ent} {i : Nat} (h : revAt l m i) (hi : i < m.length) (hj : l.length - 1 - i < m.length) (hlt : i < l.length - 1 - i) : revAt l ((m.set i m[l.length - 1 - i]).set (l.length - 1 - i) m[i]) (i + 1) := by
  obtain ⟨h1, h2⟩ := h
  refine ⟨by simp [h1], fun k hk hk2 => ?_⟩
  rw [List.getElem_set]
  by_cases e : l.length - 1 - i = k
  · rw [if_pos e, h2 i (by omega) hi, if_neg (by omega), if_pos (by omega)]
    congr 1; omega
  · rw [if_neg e, List.getElem_set]
    by_cases e2 : i = k
    · rw [if_pos e2, h2 _ (by omega) hj, if_neg (by omega), if_pos (by omega)]
      congr 1; omega
    · rw [if_neg e2, h2 k hk (by omega)]
      by_cases e3 : k < i ∨ l.length - i ≤ k
      · rw [if_pos e3, if_pos (by omega)]
      · rw [if_neg e3, if_neg (by omega)]
theorem rev_end {l m : List Mm.Ent} {i : Nat} (h : revAt l m i) (hi : ¬ i < l.length - 1 - i) : m = l.reverse := by
  obtain ⟨h1, h2⟩ := h
  apply List.ext_getElem (by simp [h1])
  intro k hk hk2
  rw [List.getElem_reverse, h2 k (by omega) hk]
  by_cases e : k < i ∨ l.length - i ≤ k
  · rw [if_pos e]
  · rw [if_neg e]
    congr 1; omega

set_option maxRecDepth 100000 in
set_option maxHeartbeats 8000000 in
theorem reverse_own (w : World) (base : Nat) (v : Value) (l : List Mm.Ent) (h : w.ownsRow base 38 4 v l.length (ecs l)) (hb : base ≤ w.heap.size) (hl : l.length ≤ 1000000) :
    Calls Try.prog 68 #[v] w fun e w' => (∃ u, e = .returned u) ∧ w'.ownsRow base 38 4 v l.length (ecs l.reverse) ∧ Below base w w' := by
  by_cases h0 : l.length = 0
  · have hn : l = [] := List.eq_nil_of_length_eq_zero h0
    subst hn
    obtain ⟨a, c, rfl⟩ := row_shape h
    have H := hide h
    clear h
    go_enter Try.func68, Try.ntmps68
    go_wp2_with (fail)
    refine wp_loop_rounds 1 ?_
    rw [rounds_succ]
    go_wp2_with (fail)
    go_end0
    exact ⟨⟨_, rfl⟩, H.out, Below.refl _ _⟩
  obtain ⟨g, cap, rfl⟩ := own_someE h h0
  have hgb := (h.lt g rfl).1
  obtain ⟨n, hn⟩ : ∃ n, n = l.length := ⟨_, rfl⟩
  have HN : Hid (n = l.length) := hn
  rw [← hn] at h h0 hl ⊢
  have H := hide h
  clear h hn
  go_enter Try.func68, Try.ntmps68
  go_wp2_with (fail)
  go_loopw [2, 3] (fun i j wr => ∃ (k : Nat) (m : List Mm.Ent), k ≤ n ∧ i = .int .i64 (k : Int) ∧ j = .int .i64 ((n : Int) - 1 - (k : Int)) ∧ Hid (revAt l m k) ∧ wr.ownsRow base 38 4 (.slice (some ⟨g, 0, none⟩) n cap) n (ecs m) ∧ Below base w wr) (fun i j _ => (intOf j).toNat + 1 - (intOf i).toNat)
  case atStart => exact ⟨0, l, Nat.zero_le _, rfl, by simp, rev_zero l, H.out, Below.refl _ _⟩
  case round =>
    obtain ⟨k, m, hk, rfl, rfl, HR, o, bx⟩ := hrel
    by_cases hlt : k < n - 1 - k
    · obtain ⟨q, hq⟩ : ∃ q, q = n - 1 - k := ⟨_, rfl⟩
      have hqi : (n : Int) - 1 - (k : Int) = (q : Int) := by omega
      rw [hqi]
      have hml : m.length = n := by have := HR.out.1; have := HN.out; omega
      have km : k < m.length := by omega
      have qm : q < m.length := by omega
      have EA := EntsAt.own (l := m) (by rw [hml]; exact o)
      obtain ⟨c0, c1, c2, c3⟩ := EA.cells k km
      obtain ⟨d0, d1, d2, d3⟩ := EA.cells q qm
      rw [Nat.zero_add] at c0 c1 c2 c3 d0 d1 d2 d3
      have hblk : ∃ cur, wr.heap[g]? = some (.cells cur 38 (0, 0)) := by
        rcases o.2 with ⟨e, _⟩ | ⟨g', cap', cur, e, _, hg, _⟩
        · cases e
        · simp only [Value.slice.injEq, Option.some.injEq, Addr.mk.injEq, and_true, true_and] at e
          obtain ⟨rfl, rfl⟩ := e
          exact ⟨cur, hg⟩
      obtain ⟨cur, hcur⟩ := hblk
      have fz : ∀ i, wr.frozen? ⟨g, i, none⟩ = false := fun i => Joins.unfrozen_of_block hcur i
      have f0 := fz (k * 4)
      have f1 := fz (k * 4 + 1)
      have f2 := fz (k * 4 + 2)
      have f3 := fz (k * 4 + 3)
      have g0 := fz (q * 4)
      have g1 := fz (q * 4 + 1)
      have g2 := fz (q * 4 + 2)
      have g3 := fz (q * 4 + 3)
      have HS : Hid (revAt l ((m.set k m[q]).set q m[k]) (k + 1)) := by
        have := rev_step HR.out km (by have := HN.out; omega) (by have := HN.out; omega)
        simp only [← HN.out, ← hq] at this
        exact this
      have O1 := own_put o k km m[q]
      have O2 := own_put O1.1 q (by rw [List.length_set]; exact qm) m[k]
      have OO := hide O2.1
      have OM := hide (O1.2.trans O2.2 (fun _ _ h => h))
      have i1 : (k : Int) < (q : Int) := by omega
      have i2 : (q : Int) < (n : Int) := by omega
      have i3 : (k : Int) < (n : Int) := by omega
      have i4 : (0 : Int) ≤ (k : Int) := by omega
      have i5 : (0 : Int) ≤ (q : Int) := by omega
      generalize m[k] = x at *
      generalize m[q] = y at *
      have HQ := hide hq
      clear EA fz hcur O1 O2 HR o H hq hqi
      go_wp2_with (fail)
      go_region
      go_wp2_with (fail)
      have hq := HQ.out
      have m2 := OM.out.drew
      refine ⟨⟨k + 1, _, by omega, by go_num, by congr 1; omega, HS, OO.out.drew, bx.trans (m2.under (Nat.le_trans hb bx.size) (fun i hi => by omega))⟩, by simp [intOf]; omega⟩
    · have i3 : ¬ (k : Int) < (n : Int) - 1 - (k : Int) := by omega
      have HE : Hid (m = l.reverse) := rev_end HR.out (by have := HN.out; omega)
      rw [HE.out] at o
      clear HR H
      go_wp2_with (fail)
      go_end0
      exact ⟨⟨_, rfl⟩, o, bx⟩
end Go.Proofs.Ytbdgdigpnfpnhaa
