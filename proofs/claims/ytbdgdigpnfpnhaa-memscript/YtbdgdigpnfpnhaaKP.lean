/-
  How the document counts the steps to an entry, lane by lane: they are those of the towers (plain). .. and what follows from it.
-/
import Derived.Test.YtbdgdigpnfpnhaaKA
import Derived.Test.YtbdgdigpnfpnhaaKI
import Derived.Test.YtbdgdigpnfpnhaaKT
import Derived.Test.YtbdgdigpnfpnhaaKK
import Derived.Test.YtbdgdigpnfpnhaaBRef8
import Derived.Test.YtbdgdigpnfpnhaaKL
namespace Go.Proofs.Ytbdgdigpnfpnhaa.Q
namespace Mm

/-- The places, from s on, of the towers that are h or more. -/
def plR (h : Int) : Nat → List Int → List Nat
  | _, [] => []
  | s, x :: r => if h ≤ x then s :: plR h (s + 1) r else plR h (s + 1) r
theorem plR_snoc (h : Int) (l : List Int) (x : Int) : ∀ s, plR h s (l ++ [x]) = plR h s l ++ (if h ≤ x then [s + l.length] else []) := by
  induction l with
  | nil => intro s; simp [plR]
  | cons y r ih =>
    intro s
    rw [List.cons_append, plR, plR, ih (s + 1), List.length_cons]
    have : s + 1 + r.length = s + (r.length + 1) := by omega
    split <;> simp [this]
theorem plR_take (h : Int) (l : List Int) (k : Nat) (hk : k < l.length) : plR h 0 (l.take (k + 1)) = plR h 0 (l.take k) ++ (if h ≤ l[k] then [k] else []) := by
  rw [List.take_succ_eq_append_getElem hk, plR_snoc, List.length_take, Nat.min_eq_left (by omega), Nat.zero_add]
theorem plR_len (h : Int) (l : List Int) : ∀ s, (plR h s l).length ≤ l.length := by
  induction l with
  | nil => intro s; exact Nat.le_refl _
  | cons y r ih =>
    intro s
    rw [plR, List.length_cons]
    have := ih (s + 1)
    split
    · rw [List.length_cons]; omega
    · omega
theorem plR_lt (h : Int) (l : List Int) : ∀ s, ∀ p ∈ plR h s l, s ≤ p ∧ p < s + l.length := by
  induction l with
  | nil => intro s p hp; cases hp
  | cons y r ih =>
    intro s p hp
    rw [plR] at hp
    rw [List.length_cons]
    split at hp
    · rcases List.mem_cons.1 hp with rfl | hp
      · omega
      · have := ih (s + 1) p hp; omega
    · have := ih (s + 1) p hp; omega
/-- One lane: which entries are looked at, and where one stands behind it. -/
def laneGo (es : List Ent) (goal : Ent) : List Nat → Nat → Int → Nat × Int
  | [], n, a => (n, a)
  | p :: r, n, a => if (p : Int) ≤ a then laneGo es goal r n a else if ahead (es.getD p goal) goal then laneGo es goal r (n + 1) p else (n + 1, a)
/-- The lanes h down to 1. -/
def costR (es : List Ent) (ts : List Int) (goal : Ent) : Nat → Nat → Int → Nat
  | 0, n, _ => n
  | h + 1, n, a => costR es ts goal h (laneGo es goal (plR ((h : Int) + 1) 0 ts) n a).1 (laneGo es goal (plR ((h : Int) + 1) 0 ts) n a).2

theorem go_skip (es : List Ent) (goal : Ent) (n : Nat) (a : Int) : ∀ (l r : List Nat), (∀ p ∈ l, (p : Int) ≤ a) → laneGo es goal (l ++ r) n a = laneGo es goal r n a
  | [], _, _ => rfl
  | p :: l, r, h => by
    rw [List.cons_append, laneGo, if_pos (h p (by simp))]
    exact go_skip es goal n a l r fun q hq => h q (by simp [hq])
theorem plR_app (h : Int) (l m : List Int) : ∀ s, plR h s (l ++ m) = plR h s l ++ plR h (s + l.length) m := by
  induction l with
  | nil => intro s; simp [plR]
  | cons y r ih =>
    intro s
    rw [List.cons_append, plR, plR, ih (s + 1), List.length_cons]
    have : s + 1 + r.length = s + (r.length + 1) := by omega
    rw [this]
    split <;> simp
theorem on_h (k : Nat) (x : Nd) : on k x = decide ((k : Int) + 1 ≤ (x.h : Int)) := by
  unfold on
  by_cases h : k < x.h
  · rw [decide_eq_true h, decide_eq_true (by omega)]
  · rw [decide_eq_false h, decide_eq_false (by omega)]
theorem go_back (es : List Ent) (goal : Ent) (k n : Nat) (a : Int) : ∀ (b : List Nd) (s : Nat), a < (s : Int) → (∀ i (_ : i < b.length), ahead (es.getD (s + i) goal) goal = false) → laneGo es goal (plR ((k : Int) + 1) s (b.map fun x => (x.h : Int))) n a = (n + one k b, a)
  | [], s, _, _ => by simp [plR, laneGo, one]
  | y :: r, s, ha, hb => by
    rw [List.map_cons, plR]
    by_cases ho : on k y = true
    · rw [if_pos (by rw [on_h] at ho; exact of_decide_eq_true ho), laneGo, if_neg (by omega)]
      have h0 := hb 0 (by simp)
      rw [Nat.add_zero] at h0
      rw [h0, if_neg (by simp)]
      unfold one
      rw [List.any_cons, ho, Bool.true_or, if_pos rfl]
    · have ho' : on k y = false := by simpa using ho
      rw [if_neg (by rw [on_h] at ho'; exact of_decide_eq_false ho'), go_back es goal k n a r (s + 1) (by omega) (fun i hi => by
        have := hb (i + 1) (by rw [List.length_cons]; omega)
        rw [show s + (i + 1) = s + 1 + i by omega] at this
        exact this)]
      unfold one
      rw [List.any_cons, ho', Bool.false_or]
theorem go_front (es : List Ent) (goal : Ent) (k : Nat) (b : List Nd) : ∀ (q : List Nd) (s n : Nat) (a : Int), a < (s : Int) → (∀ i (_ : i < q.length), ahead (es.getD (s + i) goal) goal = true) → (∀ i (_ : i < b.length), ahead (es.getD (s + q.length + i) goal) goal = false) →
    ∃ a' : Int, laneGo es goal (plR ((k : Int) + 1) s ((q ++ b).map fun x => (x.h : Int))) n a = (n + cnt k q + one k b, a') ∧ a ≤ a' ∧ a' < (s : Int) + q.length ∧ rest k q = q.drop (a' + 1 - s).toNat ∧ (a' = a ∨ (s : Int) ≤ a')
  | [], s, n, a, ha, _, hb => by
    refine ⟨a, ?_, by omega, by simp; omega, by simp [rest], .inl rfl⟩
    rw [List.nil_append, go_back es goal k n a b s ha (fun i hi => by simpa using hb i hi)]
    simp [cnt]
  | y :: r, s, n, a, ha, hq, hb => by
    rw [List.cons_append, List.map_cons, plR]
    have hq' : ∀ i (_ : i < r.length), ahead (es.getD (s + 1 + i) goal) goal = true := fun i hi => by
      have := hq (i + 1) (by rw [List.length_cons]; omega)
      rw [show s + (i + 1) = s + 1 + i by omega] at this
      exact this
    have hb' : ∀ i (_ : i < b.length), ahead (es.getD (s + 1 + r.length + i) goal) goal = false := fun i hi => by
      have := hb i hi
      rw [List.length_cons, show s + (r.length + 1) + i = s + 1 + r.length + i by omega] at this
      exact this
    by_cases ho : on k y = true
    · rw [if_pos (by rw [on_h] at ho; exact of_decide_eq_true ho), laneGo, if_neg (by omega)]
      have h0 := hq 0 (by simp)
      rw [Nat.add_zero] at h0
      rw [h0, if_pos rfl]
      obtain ⟨a', e, h1, h2, h3, h4⟩ := go_front es goal k b r (s + 1) (n + 1) (s : Int) (by omega) hq' hb'
      have hc : cnt k (y :: r) = cnt k r + 1 := by unfold cnt; rw [List.filter_cons, if_pos ho, List.length_cons]
      refine ⟨a', by rw [e, hc]; congr 1; omega, by omega, by rw [List.length_cons]; omega, ?_, .inr h1⟩
      rw [show (a' + 1 - (s : Int)).toNat = (a' + 1 - ((s + 1 : Nat) : Int)).toNat + 1 by omega, List.drop_succ_cons, ← h3]
      exact rest_move (q2 := r) ho []
    · have ho' : on k y = false := by simpa using ho
      rw [if_neg (by rw [on_h] at ho'; exact of_decide_eq_false ho')]
      obtain ⟨a', e, h1, h2, h3, h4⟩ := go_front es goal k b r (s + 1) n a (by omega) hq' hb'
      have hc : cnt k (y :: r) = cnt k r := by unfold cnt; rw [List.filter_cons, ho', if_neg (by simp)]
      refine ⟨a', by rw [e, hc], h1, by rw [List.length_cons]; omega, ?_, ?_⟩
      · rw [rest]
        rcases h4 with h4 | h4
        · have hz : (a' + 1 - (s : Int)).toNat = 0 := by omega
          have hz' : (a' + 1 - ((s + 1 : Nat) : Int)).toNat = 0 := by omega
          rw [hz, List.drop_zero]
          rw [hz', List.drop_zero] at h3
          split
          · rename_i hany
            exfalso
            obtain ⟨z, hz1, hz2⟩ := List.any_eq_true.1 hany
            have := rest_len k r
            have hp : 0 < cnt k r := by unfold cnt; exact List.length_pos_iff.2 (List.ne_nil_of_mem (List.mem_filter.2 ⟨hz1, hz2⟩))
            rw [h3] at this
            omega
          · rfl
        · rw [show (a' + 1 - (s : Int)).toNat = (a' + 1 - ((s + 1 : Nat) : Int)).toNat + 1 by omega, List.drop_succ_cons, ← h3]
          by_cases hany : r.any (on k) = true
          · rw [if_pos hany]
          · exfalso
            have hr : rest k r = r := rest_none fun z hz => by
              have := List.any_eq_false.1 (by simpa using hany) z hz
              simpa using this
            rw [hr] at h3
            have hl := congrArg List.length h3
            rw [List.length_drop] at hl
            have h5 : (((s + 1 : Nat)) : Int) ≤ a' := h4
            have h6 : a' < ((s + 1 : Nat) : Int) + r.length := h2
            omega
      · rcases h4 with h4 | h4
        · exact .inl h4
        · exact .inr (by have : (((s + 1 : Nat)) : Int) ≤ a' := h4; omega)
/-- The steps are the same. -/
theorem cost_same (es : List Ent) (goal : Ent) (f b : List Nd) (he : es = (f ++ b).map (·.ent)) (hf : ∀ x ∈ f, ahead x.ent goal = true) (hb : ∀ x ∈ b, ahead x.ent goal = false) : ∀ (k n : Nat) (a : Int), -1 ≤ a → a < (f.length : Int) → costR es ((f ++ b).map fun x => (x.h : Int)) goal k n a = n + costs b k (f.drop (a + 1).toNat)
  | 0, n, a, _, _ => rfl
  | k + 1, n, a, h1, h2 => by
    obtain ⟨s, hs⟩ : ∃ s : Nat, s = (a + 1).toNat := ⟨_, rfl⟩
    have hsl : s ≤ f.length := by omega
    have hcut : (f ++ b).map (fun x => (x.h : Int)) = (f.take s).map (fun x => (x.h : Int)) ++ (f.drop s ++ b).map (fun x => (x.h : Int)) := by
      rw [← List.map_append, ← List.append_assoc, List.take_append_drop]
    have hlt : ((f.take s).map (fun x => (x.h : Int))).length = s := by simp; omega
    have hget : ∀ i (h : i < (f ++ b).length), es.getD i goal = (f ++ b)[i].ent := fun i h => by
      rw [he, List.getD_eq_getElem?_getD, List.getElem?_map, List.getElem?_eq_getElem h]
      rfl
    have hq : ∀ i (_ : i < (f.drop s).length), ahead (es.getD (s + i) goal) goal = true := fun i hi => by
      rw [List.length_drop] at hi
      rw [hget (s + i) (by rw [List.length_append]; omega), List.getElem_append_left (by omega)]
      exact hf _ (List.getElem_mem _)
    have hbk : ∀ i (_ : i < b.length), ahead (es.getD (s + (f.drop s).length + i) goal) goal = false := fun i hi => by
      rw [List.length_drop, show s + (f.length - s) + i = f.length + i by omega, hget (f.length + i) (by rw [List.length_append]; omega), List.getElem_append_right (by omega)]
      exact hb _ (List.getElem_mem _)
    obtain ⟨a', e, g1, g2, g3, g4⟩ := go_front es goal k b (f.drop s) s n a (by omega) hq hbk
    have hgo : laneGo es goal (plR ((k : Int) + 1) 0 ((f ++ b).map fun x => (x.h : Int))) n a = (n + cnt k (f.drop s) + one k b, a') := by
      rw [hcut, plR_app, hlt, Nat.zero_add, go_skip es goal n a _ _ (fun p hp => ?_), e]
      have := plR_lt _ _ 0 p hp
      rw [hlt] at this
      omega
    rw [costR, hgo, cost_same es goal f b he hf hb k _ a' (by omega) (by rw [List.length_drop] at g2; omega), costs]
    have : f.drop (a' + 1).toNat = rest k (f.drop s) := by
      rw [g3, List.drop_drop]
      congr 1
      rcases g4 with g4 | g4
      · omega
      · omega
    rw [this, ← hs]
    omega
end Mm
end Go.Proofs.Ytbdgdigpnfpnhaa.Q
namespace Go.Proofs.Ytbdgdigpnfpnhaa.Q
open Go.RowKit

structure RtAt (base : Nat) (w : World) (b : Nat) (hv lv tv : Value) (hs : List Int) (es : List Mm.Ent) (ts : List Int) : Prop where
  blk : w.heap[b]? = some (.cells #[.bool true, hv, lv, tv] 43 (0, 0))
  hh : w.ownsRow base 3 1 hv hs.length (ics hs)
  ll : w.ownsRow base 38 4 lv es.length (ecs es)
  tt : w.ownsRow base 3 1 tv ts.length (ics ts)
  len : ts.length = es.length
  both : (lv = .slice none 0 0 ∧ tv = .slice none 0 0) ∨ (∃ g c g2 c2, lv = .slice (some ⟨g, 0, none⟩) es.length c ∧ tv = .slice (some ⟨g2, 0, none⟩) es.length c2)
theorem RtAt.later {base : Nat} {w w' : World} {b : Nat} {hv lv tv : Value} {hs : List Int} {es : List Mm.Ent} {ts : List Int} (h : RtAt base w b hv lv tv hs es ts) (hb : Below w.heap.size w w') : RtAt base w' b hv lv tv hs es ts :=
  ⟨keepB hb h.blk, own_laterV h.hh hb, own_laterV h.ll hb, own_laterV h.tt hb, h.len, h.both⟩
theorem RtAt.cell {base : Nat} {w : World} {b : Nat} {hv lv tv : Value} {hs : List Int} {es : List Mm.Ent} {ts : List Int} (h : RtAt base w b hv lv tv hs es ts) : w.cell? ⟨b, 0, none⟩ = some (.bool true) ∧ w.cell? ⟨b, 1, none⟩ = some hv ∧ w.cell? ⟨b, 2, none⟩ = some lv ∧ w.cell? ⟨b, 3, none⟩ = some tv :=
  ⟨Joins.cell_of_block h.blk 0, Joins.cell_of_block h.blk 1, Joins.cell_of_block h.blk 2, Joins.cell_of_block h.blk 3⟩

theorem rnone_any (w : World) (b : Nat) (h : w.cell? ⟨b, 0, none⟩ = some (.bool true)) : Calls Try.prog 43 #[.pointer (some ⟨b, 0, none⟩)] w fun e w' => e = .returned (.bool false) ∧ w' = w := by
  go_enter Try.func43, Try.ntmps43
  go_wp2_with (fail)
  go_ret
  exact ⟨rfl, rfl⟩

section
variable {base : Nat} {w : World} {b : Nat} {hv lv tv : Value} {hs : List Int} {es : List Mm.Ent} {ts : List Int}

set_option maxRecDepth 100000 in
theorem rall_any (h : RtAt base w b hv lv tv hs es ts) (hn : es.length ≤ 100000) : Calls Try.prog 22 #[.pointer (some ⟨b, 0, none⟩)] w fun e w' => ∃ g cap, e = .returned (.slice (some ⟨g, 0, none⟩) es.length cap) ∧ w'.ownsRow w.heap.size 38 4 (.slice (some ⟨g, 0, none⟩) es.length cap) es.length (ecs es) ∧ Below w.heap.size w w' := by
  obtain ⟨c0, c1, c2, c3⟩ := h.cell
  obtain ⟨la, lc, e⟩ := row_shape h.ll
  obtain ⟨n, hN⟩ : ∃ n, n = es.length := ⟨_, rfl⟩
  have NO : Hid (la = none → lc = 0) := fun e1 => by
    rcases h.ll.2 with ⟨e2, _⟩ | ⟨g', cap', cur, e2, _⟩
    · rw [e, e1] at e2; simp only [Value.slice.injEq] at e2; exact e2.2.2
    · rw [e, e1] at e2; simp only [Value.slice.injEq] at e2; cases e2.1
  have RN := hide (rnone_any w b c0)
  have b0 : Below w.heap.size w (w.alloc (.cells #[] 38)) := (Below.refl _ _).alloc (Nat.le_refl _) _
  have c2' := keepC b0 c2
  have L0 : Hid ((w.alloc (.cells #[] 38)).ownsRow w.heap.size 38 4 (.slice (some ⟨w.heap.size, 0, none⟩) 0 0) 0 (ecs [])) := World.ownsRow_lit (size := 4) (e := 38) (base := w.heap.size) w #[] 0 (Nat.le_refl _) (by unfold maxLen; omega) rfl
  have HA := hide ((EntsAt.own h.ll).later b0)
  rw [e] at c2 c2' HA
  rw [← hN] at c2 c2' HA hn ⊢
  have HN := hide hN
  clear h e hN b0 c1 c3
  go_enter Try.func22, Try.ntmps22
  go_wp2_with (first
    | (go_at_call 43; refine RN.out.mono ?_; rintro e w1 ⟨rfl, rfl⟩; clear RN)
    | (at_builtin; refine wpList_app_ents _ rfl _ _ rfl w1.heap.size w1.heap.size 0 [] es 0 n lc rfl HN.out rfl L0.out la rfl HA.out NO.out (by omega) (by simp) ?_; intro g1 cap1 w2 o1 h1))
  have B1 : Below w1.heap.size w1 w2 := ((Below.refl _ _).alloc (Nat.le_refl _) _).grown h1 (by simp) (fun k hk => by cases hk; exact Nat.le_refl _)
  simp only [Nat.zero_add, List.nil_append] at o1 ⊢
  go_ret
  exact ⟨g1, cap1, rfl, o1, B1⟩

def bytesE (l : List Mm.Ent) : Nat := (l.map fun x => x.key.length + x.value.length).sum
theorem bytesE_take (l : List Mm.Ent) (j : Nat) (h : j < l.length) : bytesE (l.take (j + 1)) = bytesE (l.take j) + (l[j].key.length + l[j].value.length) := by
  unfold bytesE
  rw [List.take_succ_eq_append_getElem h, List.map_append, List.sum_append]
  simp
theorem bytesE_le (l : List Mm.Ent) (hk : ∀ x ∈ l, x.key.length ≤ 1000000 ∧ x.value.length ≤ 1000000) : bytesE l ≤ l.length * 2000000 := by
  induction l with
  | nil => simp [bytesE]
  | cons x r ih =>
    have h1 := ih fun y hy => hk y (by simp [hy])
    have h2 := hk x (by simp)
    have : bytesE (x :: r) = x.key.length + x.value.length + bytesE r := by simp [bytesE]
    rw [this, List.length_cons]
    omega

set_option maxRecDepth 100000 in
set_option maxHeartbeats 4000000 in
theorem rsize_any (h : RtAt base w b hv lv tv hs es ts) (hn : es.length ≤ 100000) (hk : ∀ x ∈ es, x.key.length ≤ 1000000 ∧ x.value.length ≤ 1000000) : Calls Try.prog 46 #[.pointer (some ⟨b, 0, none⟩)] w fun e w' => e = .returned (.int .i64 (bytesE es : Int)) ∧ Below w.heap.size w w' := by
  obtain ⟨n, hN⟩ : ∃ n, n = es.length := ⟨_, rfl⟩
  obtain ⟨la, lc, e⟩ := row_shape h.ll
  have KC : Hid (∀ wx, Below w.heap.size w wx → wx.cell? ⟨b, 0, none⟩ = some (.bool true) ∧ wx.cell? ⟨b, 2, none⟩ = some (.slice la n lc)) := fun wx hb => by
    have := (h.later hb).cell
    rw [hN, ← e]
    exact ⟨this.1, this.2.2.1⟩
  have EA : Hid (EntsAt w (.slice la n lc) es) := by
    have := EntsAt.own h.ll
    rw [e, ← hN] at this
    exact this
  have HN := hide hN
  have HK := hide hk
  rw [← hN] at hn
  clear h e hN hk
  go_enter Try.func46, Try.ntmps46
  go_wp2_with (fail)
  go_loopw [3, 4] (fun x i wr => ∃ (j t : Nat), j ≤ n ∧ t ≤ j * 2000000 ∧ i = .int .i64 (j : Int) ∧ x = .int .i64 (t : Int) ∧ Hid (t = bytesE (es.take j)) ∧ Below w.heap.size w wr) (fun _ i _ => n - (intOf i).toNat)
  case atStart => exact ⟨0, 0, Nat.zero_le _, Nat.zero_le _, rfl, rfl, rfl, Below.refl _ _⟩
  case round =>
    obtain ⟨j, t, hj, ht, rfl, rfl, HT, bx⟩ := hrel
    obtain ⟨c0, c2⟩ := KC.out wr bx
    have RN := hide (rnone_any wr b c0)
    by_cases hlt : j < n
    · have jl : j < es.length := by have := HN.out; omega
      obtain ⟨eb, off, rfl⟩ := EA.out.some (by omega)
      have CC : Hid (∀ wx, Below w.heap.size w wx → wx.cell? ⟨b, 2, none⟩ = some (.slice (some ⟨eb, off, none⟩) n lc) ∧ wx.cell? ⟨eb, off + j * 4, none⟩ = some (str es[j].key) ∧ wx.cell? ⟨eb, off + j * 4 + 1, none⟩ = some (str es[j].value)) := fun wx hb => ⟨(KC.out wx hb).2, ((EA.out.later hb).cells j jl).1, ((EA.out.later hb).cells j jl).2.1⟩
      have HX : Hid (bytesE (es.take (j + 1)) = t + (es[j].key.length + es[j].value.length)) := by show _ = _; rw [bytesE_take es j jl, ← HT.out]
      obtain ⟨kl, vl⟩ := HK.out _ (List.getElem_mem jl)
      generalize es[j] = x at *
      obtain ⟨K, V, Q, D⟩ := x
      simp only at CC HX kl vl
      have j1 : (j : Int) < (n : Int) := by omega
      have j0 : (0 : Int) ≤ (j : Int) := by omega
      have P1 := CC.out wr.drew bx.drew
      have w1 : IntKind.i64.wrap ((t : Int) + (K.length : Int)) = (t : Int) + (K.length : Int) := by rw [IntKind.wrap_i64]; omega
      have w2 : IntKind.i64.wrap ((t : Int) + (K.length : Int) + (V.length : Int)) = (t : Int) + (K.length : Int) + (V.length : Int) := by rw [IntKind.wrap_i64]; omega
      clear HT jl
      go_wp2_with (go_at_call 43; refine RN.out.mono ?_; rintro e w1 ⟨rfl, rfl⟩; clear RN)
      go_region_held3 (fun wx => wx.cell? ⟨b, 2, none⟩ = some (.slice (some ⟨eb, off, none⟩) n lc) ∧ wx.cell? ⟨eb, off + j * 4, none⟩ = some (str K) ∧ wx.cell? ⟨eb, off + j * 4 + 1, none⟩ = some (str V))
        (exact P1) (fail)
      go_wp2_with (fail)
      refine ⟨⟨j + 1, t + (K.length + V.length), by omega, by omega, by go_num, ?_, HX.out.symm, bx.drew⟩, by simp [intOf]; omega⟩
      simp [Int.add_assoc]
    · have ej : j = n := by omega
      subst ej
      have j1 : ¬ (j : Int) < (j : Int) := by omega
      have HE : Hid (t = bytesE es) := by
        have := HT.out
        rw [List.take_of_length_le (by have := HN.out; omega)] at this
        exact this
      clear HT
      go_wp2_with (go_at_call 43; refine RN.out.mono ?_; rintro e w1 ⟨rfl, rfl⟩; clear RN)
      go_ret
      rw [HE.out]
      exact ⟨rfl, bx⟩

set_option maxRecDepth 100000 in
set_option maxHeartbeats 4000000 in
theorem rlane_any (h : RtAt base w b hv lv tv hs es ts) (hn : es.length ≤ 100000) (k : Int) : Calls Try.prog 48 #[.pointer (some ⟨b, 0, none⟩), .int .i64 k] w fun e w' => ∃ v, e = .returned v ∧ w'.ownsRow w.heap.size 3 1 v (if 1 ≤ k ∧ k ≤ 12 then Mm.plR k 0 ts else []).length (ics ((if 1 ≤ k ∧ k ≤ 12 then Mm.plR k 0 ts else []).map fun (x : Nat) => (x : Int))) ∧ Below w.heap.size w w' := by
  obtain ⟨i0, hi, hz0, hz1, hz2⟩ := info_parts Try.infoI
  obtain ⟨n, hN⟩ : ∃ n, n = es.length := ⟨_, rfl⟩
  obtain ⟨la, lc, e⟩ := row_shape h.ll
  obtain ⟨ta, tc, e2⟩ := row_shape h.tt
  have hlt' := h.len
  have KC : Hid (∀ wx, Below w.heap.size w wx → wx.cell? ⟨b, 0, none⟩ = some (.bool true) ∧ wx.cell? ⟨b, 2, none⟩ = some (.slice la n lc) ∧ wx.cell? ⟨b, 3, none⟩ = some (.slice ta n tc)) := fun wx hb => by
    have := (h.later hb).cell
    rw [hN, ← e, ← hlt', ← e2]
    exact ⟨this.1, this.2.2.1, this.2.2.2⟩
  have TA : Hid (IntsAt w (.slice ta n tc) ts) := by
    have := ints_own h.tt
    rw [e2, hlt', ← hN] at this
    exact this
  have HN : Hid (n = ts.length) := by show _ = _; rw [hlt']; exact hN
  rw [← hN] at hn
  clear h e e2 hN hlt'
  by_cases hk : 1 ≤ k ∧ k ≤ 12
  · rw [if_pos hk]
    have k1 : k ≥ 1 := by omega
    have k12 : k ≤ 12 := hk.2
    clear hk
    go_enter Try.func48, Try.ntmps48
    go_wp2_with (fail)
    go_loopw [5, 6] (fun x i wr => ∃ (j : Nat), j ≤ n ∧ i = .int .i64 (j : Int) ∧ wr.ownsRow w.heap.size 3 1 x (Mm.plR k 0 (ts.take j)).length (ics ((Mm.plR k 0 (ts.take j)).map fun (x : Nat) => (x : Int))) ∧ Below w.heap.size w wr) (fun _ i _ => n - (intOf i).toNat)
    case atStart => exact ⟨0, Nat.zero_le _, rfl, World.ownsRow_nil _ _ _ _, Below.refl _ _⟩
    case round =>
      obtain ⟨j, hj, rfl, o, bx⟩ := hrel
      obtain ⟨c0, c2, c3⟩ := KC.out wr bx
      have RN := hide (rnone_any wr b c0)
      by_cases hlt : j < n
      · have jl : j < ts.length := by have := HN.out; omega
        obtain ⟨eb, off, rfl⟩ := ints_some TA.out (by omega)
        have ct := ints_at (TA.out.later bx) j jl
        have HX : Hid (Mm.plR k 0 (ts.take (j + 1)) = Mm.plR k 0 (ts.take j) ++ (if k ≤ ts[j] then [j] else [])) := Mm.plR_take k ts j jl
        have OL : Hid ((Mm.plR k 0 (ts.take j)).length ≤ j) := by
          have h1 := Mm.plR_len k (ts.take j) 0
          rw [List.length_take] at h1
          show _ ≤ _
          omega
        generalize ts[j] = x at *
        generalize Mm.plR k 0 (ts.take j) = pl at *
        have O := hide o
        have j1 : (j : Int) < (n : Int) := by omega
        have j0 : (0 : Int) ≤ (j : Int) := by omega
        clear o jl
        by_cases hx : k ≤ x
        · have x1 : x ≥ k := hx
          have Z1 : Hid (pl.length + 1 ≤ maxLen) := by show _ ≤ _; have := OL.out; unfold maxLen; omega
          have Z2 : Hid ((pl.length + 1) * 8 ≤ 140737488355328) := by show _ ≤ _; have := OL.out; omega
          have zw : w.heap.size ≤ wr.heap.size := bx.size
          have CN : Hid (∀ W : World, ∀ B, B = W.heap.size → ∀ i u, (ics [(j : Int)])[i]? = some u → (W.alloc (.cells #[.int .i64 (j : Int)] 3)).cell? ((⟨B, 0, none⟩ : Addr).add i) = some u) := fun W B hB i u hu => by
            subst hB
            have hadd : (⟨W.heap.size, 0, none⟩ : Addr).add i = ⟨W.heap.size, i, none⟩ := by unfold Addr.add; split <;> simp_all
            rw [hadd, Joins.cell_of_block (World.alloc_heap_new W _) i]
            cases i with
            | zero => simpa [ics] using hu
            | succ i => simp [ics] at hu
          go_wp2_with (first
            | (go_at_call 43; refine RN.out.mono ?_; rintro e w1 ⟨rfl, rfl⟩; clear RN)
            | (at_builtin; refine wpList_append_lies _ rfl _ _ 22 rfl w.heap.size 3 i0 _ 1 8 Try.underlying22 hi hz0 hz1 hz2 rfl (by decide) _ pl.length _ rfl (O.out.alloc _) ⟨w1.heap.size, 0, none⟩ 1 1 (ics [(j : Int)]) rfl rfl (CN.out _ _ rfl) (ics_one _) (by decide) Z1.out Z2.out (by simp; omega) _ rfl ?_; intro g4 cap4 w4 o4 h4 l4 lt4))
          refine ⟨⟨j + 1, by omega, by go_num, ?_, (bx.alloc zw _).grown h4 (by simp; omega) (fun k hk => (O.out.lt k hk).1)⟩, by simp [intOf]; omega⟩
          rw [HX.out, if_pos hx, List.length_append, List.map_append]
          have e9 : ics (pl.map (fun (x : Nat) => (x : Int)) ++ [j].map (fun (x : Nat) => (x : Int))) = ics (pl.map fun (x : Nat) => (x : Int)) ++ ics [(j : Int)] := by simp [ics]
          rw [e9]
          exact o4
        · have x1 : ¬ x ≥ k := hx
          go_wp2_with (go_at_call 43; refine RN.out.mono ?_; rintro e w1 ⟨rfl, rfl⟩; clear RN)
          refine ⟨⟨j + 1, by omega, by go_num, ?_, bx⟩, by simp [intOf]; omega⟩
          rw [HX.out, if_neg (by omega), List.append_nil]
          exact O.out
      · have ej : j = n := by omega
        subst ej
        have j1 : ¬ (j : Int) < (j : Int) := by omega
        rw [List.take_of_length_le (by have := HN.out; omega)] at o
        go_wp2_with (go_at_call 43; refine RN.out.mono ?_; rintro e w1 ⟨rfl, rfl⟩; clear RN)
        go_ret
        exact ⟨_, rfl, o, bx⟩
  · rw [if_neg hk]
    obtain ⟨c0, c2, c3⟩ := KC.out w (Below.refl _ _)
    have RN := hide (rnone_any w b c0)
    go_enter Try.func48, Try.ntmps48
    go_wp2_with (fail)
    refine wp_loop_rounds 1 ?_
    rw [rounds_succ]
    by_cases h1 : k ≥ 1
    · have h2 : ¬ k ≤ 12 := fun h => hk ⟨h1, h⟩
      go_wp2_with (go_at_call 43; refine RN.out.mono ?_; rintro e w1 ⟨rfl, rfl⟩; clear RN)
      go_ret
      exact ⟨_, rfl, World.ownsRow_nil _ _ _ _, Below.refl _ _⟩
    · go_wp2_with (go_at_call 43; refine RN.out.mono ?_; rintro e w1 ⟨rfl, rfl⟩; clear RN)
      go_ret
      exact ⟨_, rfl, World.ownsRow_nil _ _ _ _, Below.refl _ _⟩
end
end Go.Proofs.Ytbdgdigpnfpnhaa.Q
