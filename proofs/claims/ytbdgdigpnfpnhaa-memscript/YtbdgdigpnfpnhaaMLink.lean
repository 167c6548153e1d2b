/-
  A node is put into a chain, lane by lane; the height of the next tower; a table with one node more.
-/
import Derived.Test.YtbdgdigpnfpnhaaMCalls
namespace Go.Proofs.Ytbdgdigpnfpnhaa.Q.P
open Go.RowKit

theorem Chain.of {w : World} {l : List Mm.Nd} (h : ∀ p x r, l = p ++ x :: r → w.heap[x.blk]? = some (ndObj x r)) : Chain w l := by
  induction l with
  | nil => trivial
  | cons y t ih => exact ⟨h [] y t rfl, ih fun p x r e => h (y :: p) x r (by rw [e]; rfl)⟩

theorem ndCells_put {x x' : Mm.Nd} {r r' : List Mm.Nd} {k : Nat} {v : Value} (hk : k < 12) (he : x'.ent = x.ent) (hn : x'.num = x.num) (h : ∀ j, j < 12 → lk x' r' j = if j = k then v else lk x r j) : (ndCells x r).setIfInBounds (5 + k) v = ndCells x' r' := by
  apply Array.ext_getElem?
  intro i
  by_cases h5 : i < 5
  · rw [Array.getElem?_setIfInBounds_ne (by omega)]
    match i, h5 with
    | 0, _ => show some (str x.ent.key) = some (str x'.ent.key); rw [he]
    | 1, _ => show some (str x.ent.value) = some (str x'.ent.value); rw [he]
    | 2, _ => show some (Value.int .i64 x.ent.seq) = some (.int .i64 x'.ent.seq); rw [he]
    | 3, _ => show some (Value.bool x.ent.del) = some (.bool x'.ent.del); rw [he]
    | 4, _ => show some (Value.int .i64 (x.num : Int)) = some (.int .i64 (x'.num : Int)); rw [hn]
  · obtain ⟨j, rfl⟩ : ∃ j, i = 5 + j := ⟨i - 5, by omega⟩
    by_cases hj : j < 12
    · rw [ndCells_lane x' r' j hj, h j hj]
      by_cases e : j = k
      · subst e
        rw [Array.getElem?_setIfInBounds_self_of_lt (by rw [ndCells_size]; omega), if_pos rfl]
      · rw [Array.getElem?_setIfInBounds_ne (by omega), ndCells_lane x r j hj, if_neg e]
    · rw [Array.getElem?_eq_none (by simp [ndCells_size]; omega), Array.getElem?_eq_none (by rw [ndCells_size]; omega)]
theorem ndCells_same {x : Mm.Nd} {r r' : List Mm.Nd} (h : ∀ j, j < 12 → lk x r' j = lk x r j) : ndCells x r = ndCells x r' := by
  have := ndCells_put (x := x) (x' := x) (r := r) (r' := r') (k := 0) (v := lk x r 0) (by omega) rfl rfl (fun j hj => by
    by_cases e : j = 0
    · subst e; rw [if_pos rfl]; exact h 0 (by omega)
    · rw [if_neg e]; exact h j hj)
  rw [← this]
  apply Array.ext_getElem?
  intro i
  by_cases e : 5 + 0 = i
  · subst e; rw [Array.getElem?_setIfInBounds_self_of_lt (by rw [ndCells_size]; omega)]; rfl
  · rw [Array.getElem?_setIfInBounds_ne e]

/-- The node that is put in, with its tower up to k. -/
abbrev nd (n : Nat) (e : Mm.Ent) (c k : Nat) : Mm.Nd := ⟨n, e, c, k⟩
theorem on_nd (n : Nat) (e : Mm.Ent) (c k j : Nat) : Mm.on j (nd n e c k) = decide (j < k) := rfl
theorem nxt_other {j k n c : Nat} {e : Mm.Ent} {q b : List Mm.Nd} (h : j ≠ k) : ptr (Mm.nxt j (q ++ nd n e c (k + 1) :: b)) = ptr (Mm.nxt j (q ++ nd n e c k :: b)) := by
  rw [Mm.nxt_append, Mm.nxt_append]
  cases hq : Mm.nxt j q with
  | some y => rfl
  | none =>
    simp only [Option.none_or]
    unfold Mm.nxt
    rw [List.find?_cons, List.find?_cons, on_nd, on_nd]
    by_cases h1 : j < k
    · rw [decide_eq_true h1, decide_eq_true (by omega : j < k + 1)]; rfl
    · rw [decide_eq_false h1, decide_eq_false (by omega : ¬ j < k + 1)]
/-- Before any lane: only a new block. -/
theorem Chain.begin {w : World} {p b : List Mm.Nd} {n c : Nat} {e : Mm.Ent} (h : Chain w (p ++ b)) (hn : w.heap[n]? = some (ndObj (nd n e c 0) b)) : Chain w (p ++ nd n e c 0 :: b) := by
  have hb : Chain w b := by
    clear hn
    induction p with
    | nil => exact h
    | cons x p ih => exact ih h.2
  refine Chain.of fun p1 x r1 he => ?_
  rcases List.append_eq_append_iff.1 he with ⟨q, e1, e2⟩ | ⟨q, e1, e2⟩
  · cases q with
    | nil =>
      cases e2
      exact hn
    | cons z q =>
      cases e2
      exact Chain.at (p := q) hb
  · cases q with
    | nil => cases e2; exact hn
    | cons z q =>
      cases e2
      subst e1
      have h0 : Chain w (p1 ++ x :: (q ++ b)) := by simpa using h
      refine h0.at.trans ?_
      show some (Obj.cells (ndCells x (q ++ b)) _ _) = some (Obj.cells (ndCells x (q ++ nd n e c 0 :: b)) _ _)
      rw [ndCells_same (x := x) (r := q ++ b) (r' := q ++ nd n e c 0 :: b) (fun j _ => by
        unfold lk
        have : Mm.nxt j (q ++ nd n e c 0 :: b) = Mm.nxt j (q ++ b) := by
          rw [Mm.nxt_append, Mm.nxt_append]
          congr 1
        rw [this])]

/-- One lane more. -/
theorem Chain.link {w : World} {hd : Mm.Nd} {a b : List Mm.Nd} {n c k : Nat} {e : Mm.Ent} (h : Chain w (hd :: (a ++ nd n e c k :: b))) (hk : k < 12) (top : hd.h = 12) (ap : ((hd :: (a ++ nd n e c k :: b)).map (·.blk)).Nodup) :
    Chain ((w.setCell ⟨n, 5 + k, none⟩ (ptr (Mm.nxt k b))).setCell ⟨(Mm.lastL k hd a).blk, 5 + k, none⟩ (.pointer (some ⟨n, 0, none⟩))) (hd :: (a ++ nd n e c (k + 1) :: b)) := by
  -- where the last one of the lane stands
  obtain ⟨P, p, Q, eP, op, oQ, lp⟩ : ∃ P p Q, hd :: a = P ++ p :: Q ∧ Mm.on k p = true ∧ (∀ y ∈ Q, Mm.on k y = false) ∧ Mm.lastL k hd a = p := by
    have key : ∀ (a : List Mm.Nd) (d : Mm.Nd), Mm.on k d = true → ∃ P p Q, d :: a = P ++ p :: Q ∧ Mm.on k p = true ∧ (∀ y ∈ Q, Mm.on k y = false) ∧ Mm.lastL k d a = p := by
      intro a
      induction a with
      | nil => intro d hd; exact ⟨[], d, [], rfl, hd, by simp, rfl⟩
      | cons y a ih =>
        intro d hd
        cases hy : Mm.on k y with
        | true =>
          obtain ⟨P, p, Q, e1, e2, e3, e4⟩ := ih y hy
          exact ⟨d :: P, p, Q, by rw [e1]; rfl, e2, e3, by rw [Mm.lastL, hy, if_pos rfl]; exact e4⟩
        | false =>
          obtain ⟨P, p, Q, e1, e2, e3, e4⟩ := ih d hd
          cases P with
          | nil =>
            cases e1
            refine ⟨[], d, y :: a, rfl, hd, fun z hz => ?_, ?_⟩
            · rcases List.mem_cons.1 hz with rfl | hz
              · exact hy
              · exact e3 z hz
            · rw [Mm.lastL, hy, if_neg (by simp)]; exact e4
          | cons z P =>
            cases e1
            exact ⟨d :: y :: P, p, Q, rfl, e2, e3, by rw [Mm.lastL, hy, if_neg (by simp)]; exact e4⟩
    exact key a hd (decide_eq_true (by omega))
  rw [lp]
  have e0 : hd :: (a ++ nd n e c k :: b) = P ++ p :: (Q ++ nd n e c k :: b) := by rw [← List.cons_append, eP]; simp
  have e1 : hd :: (a ++ nd n e c (k + 1) :: b) = P ++ p :: (Q ++ nd n e c (k + 1) :: b) := by rw [← List.cons_append, eP]; simp
  rw [e0] at h ap
  rw [e1]
  clear e0 e1 eP lp
  -- no two of the blocks are one
  rw [List.map_append, List.map_cons, List.map_append, List.map_cons, List.nodup_append] at ap
  obtain ⟨_, ap2, ap3⟩ := ap
  obtain ⟨ap4, ap5⟩ := List.nodup_cons.1 ap2
  rw [List.nodup_append] at ap5
  obtain ⟨_, ap6, ap7⟩ := ap5
  obtain ⟨ap8, _⟩ := List.nodup_cons.1 ap6
  have pn : p.blk ≠ n := fun e => ap4 (by simp [e])
  have hP : ∀ x ∈ P, x.blk ≠ p.blk ∧ x.blk ≠ n := fun x hx => ⟨ap3 _ (List.mem_map.2 ⟨x, hx, rfl⟩) _ (by simp), ap3 _ (List.mem_map.2 ⟨x, hx, rfl⟩) _ (by simp)⟩
  have hQ : ∀ x ∈ Q, x.blk ≠ p.blk ∧ x.blk ≠ n := fun x hx => ⟨fun e => ap4 (by rw [← e]; simp; exact .inl ⟨x, hx, rfl⟩), ap7 _ (List.mem_map.2 ⟨x, hx, rfl⟩) _ (by simp)⟩
  have hB : ∀ x ∈ b, x.blk ≠ p.blk ∧ x.blk ≠ n := fun x hx => ⟨fun e => ap4 (by rw [← e]; simp; exact .inr (.inr ⟨x, hx, rfl⟩)), fun e => ap8 (List.mem_map.2 ⟨x, hx, e⟩)⟩
  have far : ∀ (x : Mm.Nd), x.blk ≠ p.blk → x.blk ≠ n → ((w.setCell ⟨n, 5 + k, none⟩ (ptr (Mm.nxt k b))).setCell ⟨p.blk, 5 + k, none⟩ (.pointer (some ⟨n, 0, none⟩))).heap[x.blk]? = w.heap[x.blk]? := fun x h1 h2 => (heap_setCell_other _ _ _ _ h1).trans (heap_setCell_other _ _ _ _ h2)
  have hn0 : w.heap[n]? = some (ndObj (nd n e c k) b) := by
    have : Chain w ((P ++ p :: Q) ++ nd n e c k :: b) := by simpa using h
    exact this.at
  have hb : Chain w (nd n e c k :: b) := by
    have : Chain w ((P ++ p :: Q) ++ nd n e c k :: b) := by simpa using h
    clear hn0 far hP hQ hB h
    generalize P ++ p :: Q = l at this
    induction l with
    | nil => exact this
    | cons x l ih => exact ih this.2
  refine Chain.of fun p1 x r1 he => ?_
  rcases List.append_eq_append_iff.1 he with ⟨q, e1, e2⟩ | ⟨q, e1, e2⟩
  · cases q with
    | nil =>
      -- the last one of the lane itself
      cases e2
      have h1 : (w.setCell ⟨n, 5 + k, none⟩ (ptr (Mm.nxt k b))).heap[p.blk]? = some (ndObj p (Q ++ nd n e c k :: b)) := (heap_setCell_other _ _ _ _ pn).trans h.at
      refine (heap_setCell_same _ _ _ _ _ _ h1).trans ?_
      rw [ndCells_put hk rfl rfl (x' := p) (r' := Q ++ nd n e c (k + 1) :: b) (fun j hj => ?_)]
      by_cases ej : j = k
      · subst ej
        rw [if_pos rfl]
        unfold lk
        rw [if_pos (of_decide_eq_true op), Mm.nxt_append, Mm.nxt_none.2 oQ, Option.none_or]
        unfold Mm.nxt
        rw [List.find?_cons, on_nd, decide_eq_true (by omega : j < j + 1)]
        rfl
      · rw [if_neg ej]
        unfold lk
        rw [nxt_other ej]
    | cons z q =>
      obtain ⟨rfl, e5⟩ := List.cons.inj e2
      rcases List.append_eq_append_iff.1 e5 with ⟨q2, e3, e4⟩ | ⟨q2, e3, e4⟩
      · cases q2 with
        | nil =>
          -- the new node
          cases e4
          have h1 : (w.setCell ⟨n, 5 + k, none⟩ (ptr (Mm.nxt k b))).heap[n]? = some (.cells ((ndCells (nd n e c k) b).setIfInBounds (5 + k) (ptr (Mm.nxt k b))) 65 (0, 0)) := heap_setCell_same _ _ _ _ _ _ hn0
          refine (heap_setCell_other _ _ _ _ (fun e => pn e.symm)).trans (h1.trans ?_)
          rw [ndCells_put hk rfl rfl (x := nd n e c k) (x' := nd n e c (k + 1)) (r := b) (r' := b) (fun j hj => ?_)]
          unfold lk
          by_cases ej : j = k
          · subst ej
            rw [if_pos rfl, if_pos (by show j < j + 1; omega)]
          · rw [if_neg ej]
            by_cases jk : j < k
            · rw [if_pos (by show j < k + 1; omega), if_pos (by show j < k; exact jk)]
            · rw [if_neg (by show ¬ j < k + 1; omega), if_neg (by show ¬ j < k; exact jk)]
        | cons z2 q2 =>
          -- behind it
          cases e4
          have hx : x ∈ q2 ++ x :: r1 := by simp
          obtain ⟨f1, f2⟩ := hB x hx
          exact (far x f1 f2).trans (Chain.at (p := nd n e c k :: q2) hb)
      · cases q2 with
        | nil =>
          cases e4
          have h1 : (w.setCell ⟨n, 5 + k, none⟩ (ptr (Mm.nxt k b))).heap[n]? = some (.cells ((ndCells (nd n e c k) b).setIfInBounds (5 + k) (ptr (Mm.nxt k b))) 65 (0, 0)) := heap_setCell_same _ _ _ _ _ _ hn0
          refine (heap_setCell_other _ _ _ _ (fun e => pn e.symm)).trans (h1.trans ?_)
          rw [ndCells_put hk rfl rfl (x := nd n e c k) (x' := nd n e c (k + 1)) (r := b) (r' := b) (fun j hj => ?_)]
          unfold lk
          by_cases ej : j = k
          · subst ej
            rw [if_pos rfl, if_pos (by show j < j + 1; omega)]
          · rw [if_neg ej]
            by_cases jk : j < k
            · rw [if_pos (by show j < k + 1; omega), if_pos (by show j < k; exact jk)]
            · rw [if_neg (by show ¬ j < k + 1; omega), if_neg (by show ¬ j < k; exact jk)]
        | cons z2 q2 =>
          -- between the last one of the lane and the new node: none of it is of the lane
          cases e4
          subst e3
          have hx : x ∈ q ++ x :: q2 := by simp
          obtain ⟨f1, f2⟩ := hQ x hx
          have h0 : Chain w ((P ++ p :: q) ++ x :: (q2 ++ nd n e c k :: b)) := by simpa using h
          refine (far x f1 f2).trans (h0.at.trans ?_)
          show some (Obj.cells (ndCells x (q2 ++ nd n e c k :: b)) _ _) = some (Obj.cells (ndCells x (q2 ++ nd n e c (k + 1) :: b)) _ _)
          rw [ndCells_same (x := x) (r := q2 ++ nd n e c k :: b) (r' := q2 ++ nd n e c (k + 1) :: b) (fun j _ => by
            unfold lk
            by_cases ej : j = k
            · subst ej
              have := of_decide_eq_false (oQ x hx)
              rw [if_neg this, if_neg this]
            · rw [nxt_other ej])]
  · -- ahead of the last one of the lane
    cases q with
    | nil =>
      cases e2
      have h1 : (w.setCell ⟨n, 5 + k, none⟩ (ptr (Mm.nxt k b))).heap[p.blk]? = some (ndObj p (Q ++ nd n e c k :: b)) := (heap_setCell_other _ _ _ _ pn).trans h.at
      refine (heap_setCell_same _ _ _ _ _ _ h1).trans ?_
      rw [ndCells_put hk rfl rfl (x' := p) (r' := Q ++ nd n e c (k + 1) :: b) (fun j hj => ?_)]
      by_cases ej : j = k
      · subst ej
        rw [if_pos rfl]
        unfold lk
        rw [if_pos (of_decide_eq_true op), Mm.nxt_append, Mm.nxt_none.2 oQ, Option.none_or]
        unfold Mm.nxt
        rw [List.find?_cons, on_nd, decide_eq_true (by omega : j < j + 1)]
        rfl
      · rw [if_neg ej]
        unfold lk
        rw [nxt_other ej]
    | cons z q =>
      cases e2
      subst e1
      have hx : x ∈ p1 ++ x :: q := by simp
      obtain ⟨f1, f2⟩ := hP x hx
      have h0 : Chain w (p1 ++ x :: (q ++ p :: (Q ++ nd n e c k :: b))) := by simpa using h
      refine (far x f1 f2).trans (h0.at.trans ?_)
      show some (Obj.cells (ndCells x (q ++ p :: (Q ++ nd n e c k :: b))) _ _) = some (Obj.cells (ndCells x (q ++ p :: (Q ++ nd n e c (k + 1) :: b))) _ _)
      rw [ndCells_same (x := x) (r := q ++ p :: (Q ++ nd n e c k :: b)) (r' := q ++ p :: (Q ++ nd n e c (k + 1) :: b)) (fun j _ => by
        unfold lk
        by_cases ej : j = k
        · subst ej
          have : Mm.nxt j (q ++ p :: (Q ++ nd n e c (j + 1) :: b)) = Mm.nxt j (q ++ p :: (Q ++ nd n e c j :: b)) := by
            rw [Mm.nxt_append, Mm.nxt_append]
            congr 1
            unfold Mm.nxt
            rw [List.find?_cons, List.find?_cons, op]
          rw [this]
        · have := nxt_other (j := j) (k := k) (n := n) (c := c) (e := e) (q := q ++ p :: Q) (b := b) ej
          simp only [List.append_assoc, List.cons_append] at this
          rw [this])]
end Go.Proofs.Ytbdgdigpnfpnhaa.Q.P
namespace Go.Proofs.Ytbdgdigpnfpnhaa.Q.Mm
/-- The height of the n-th tower. -/
def ht (hs : List Nat) (n : Nat) : Nat := if hs = [] then 1 else hs.getD (n % hs.length) 1
theorem ht_ok {hs : List Nat} (h : ∀ x ∈ hs, 1 ≤ x ∧ x ≤ 12) (n : Nat) : 1 ≤ ht hs n ∧ ht hs n ≤ 12 := by
  unfold ht
  split
  · omega
  · next h0 =>
    have hl : n % hs.length < hs.length := Nat.mod_lt _ (List.length_pos_iff.2 h0)
    rw [List.getD_eq_getElem?_getD, List.getElem?_eq_getElem hl]
    exact h _ (List.getElem_mem hl)
end Go.Proofs.Ytbdgdigpnfpnhaa.Q.Mm
namespace Go.Proofs.Ytbdgdigpnfpnhaa.Q.P
open Go.RowKit

set_option maxRecDepth 100000 in
set_option maxHeartbeats 2000000 in
theorem height_any (w : World) (b : Nat) (hv : Value) (hs : List Nat) (hd : Mm.Nd) (ns : List Mm.Nd) (h : TabAt w b hv hs hd ns) (hh : hs.length ≤ 1000000) :
    Calls Try.prog 42 #[.pointer (some ⟨b, 0, none⟩)] w fun e w' => e = .returned (.int .i64 (Mm.ht hs ns.length : Int)) ∧ Below w.heap.size w w' := by
  obtain ⟨_, c1, _, c3, _⟩ := h.cells
  have o := h.row
  clear h
  by_cases h0 : hs = []
  · subst h0
    obtain ⟨a, c, rfl⟩ := row_shape o
    have e0 : Mm.ht [] ns.length = 1 := rfl
    rw [e0]
    simp only [List.length_nil] at c1
    clear o c3
    go_enter Try.func42, Try.ntmps42
    go_wp2_with (fail)
    go_ret
    exact ⟨rfl, Below.refl _ _⟩
  · have hp : 0 < hs.length := List.length_pos_iff.2 h0
    obtain ⟨g, cap, rfl⟩ : ∃ g cap, hv = .slice (some ⟨g, 0, none⟩) hs.length cap := by
      rcases o.2 with ⟨_, h1⟩ | ⟨g, cap, cur, e, _⟩
      · omega
      · exact ⟨g, cap, e⟩
    have hl : ns.length % hs.length < hs.length := Nat.mod_lt _ hp
    obtain ⟨r, hr⟩ : ∃ r, r = ns.length % hs.length := ⟨_, rfl⟩
    rw [← hr] at hl
    have cx : w.cell? ⟨g, r, none⟩ = some (.int .i64 (Mm.ht hs ns.length : Int)) := by
      rw [o.cellAt r (by omega)]
      unfold Mm.ht
      rw [if_neg h0, ← hr, List.getD_eq_getElem?_getD, List.getElem?_eq_getElem hl]
      simp [hcs, hl]
    have i1 : Int.tmod (ns.length : Int) (hs.length : Int) = (r : Int) := by rw [hr, Int.ofNat_tmod]
    have i2 : ((hs.length : Int) == 0) = false := by simp; exact h0
    have i3 : (r : Int) < (hs.length : Int) := by omega
    generalize Mm.ht hs ns.length = H at *
    generalize hs.length = m at *
    generalize ns.length = n at *
    have i4 : ¬ (m : Int) = 0 := by omega
    clear o hr h0
    go_enter Try.func42, Try.ntmps42
    go_wp2_with (fail)
    go_quiet (fail)
    go_wp2_with (fail)
    go_ret
    exact ⟨rfl, below_drewN (Below.refl _ _) _⟩
end Go.Proofs.Ytbdgdigpnfpnhaa.Q.P
