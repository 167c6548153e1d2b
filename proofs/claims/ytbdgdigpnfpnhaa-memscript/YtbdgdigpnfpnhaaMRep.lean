/-
  Where a memtable lies in memory: its own block, its heights, and a block for each node, the head's first; and what its small calls answer.
-/
import Derived.Test.YtbdgdigpnfpnhaaKA
namespace Go.Proofs.Ytbdgdigpnfpnhaa.Q.P
open Go.RowKit

def ptr : Option Mm.Nd → Value
  | none => .pointer none
  | some y => .pointer (some ⟨y.blk, 0, none⟩)
/-- The link of a node in the lane k, with r behind it. -/
def lk (x : Mm.Nd) (r : List Mm.Nd) (k : Nat) : Value := if k < x.h then ptr (Mm.nxt k r) else .pointer none
abbrev entV (e : Mm.Ent) : Value := .agg #[str e.key, str e.value, .int .i64 e.seq, .bool e.del]
def ndCells (x : Mm.Nd) (r : List Mm.Nd) : Array Value := #[str x.ent.key, str x.ent.value, .int .i64 x.ent.seq, .bool x.ent.del, .int .i64 (x.num : Int),
  lk x r 0, lk x r 1, lk x r 2, lk x r 3, lk x r 4, lk x r 5, lk x r 6, lk x r 7, lk x r 8, lk x r 9, lk x r 10, lk x r 11]
abbrev ndObj (x : Mm.Nd) (r : List Mm.Nd) : Obj := .cells (ndCells x r) 65 (0, 0)
theorem ndCells_lane (x : Mm.Nd) (r : List Mm.Nd) (k : Nat) (h : k < 12) : (ndCells x r)[5 + k]? = some (lk x r k) := by
  match k, h with
  | 0, _ => rfl
  | 1, _ => rfl
  | 2, _ => rfl
  | 3, _ => rfl
  | 4, _ => rfl
  | 5, _ => rfl
  | 6, _ => rfl
  | 7, _ => rfl
  | 8, _ => rfl
  | 9, _ => rfl
  | 10, _ => rfl
  | 11, _ => rfl
theorem ndCells_size (x : Mm.Nd) (r : List Mm.Nd) : (ndCells x r).size = 17 := rfl

/-- Nodes that lie one behind the other. -/
def Chain (w : World) : List Mm.Nd → Prop
  | [] => True
  | x :: r => w.heap[x.blk]? = some (ndObj x r) ∧ Chain w r
theorem Chain.at {w : World} {p : List Mm.Nd} {x : Mm.Nd} {r : List Mm.Nd} (h : Chain w (p ++ x :: r)) : w.heap[x.blk]? = some (ndObj x r) := by
  induction p with
  | nil => exact h.1
  | cons y p ih => exact ih h.2
theorem Chain.same {w w' : World} {l : List Mm.Nd} (h : Chain w l) (hs : ∀ x ∈ l, w'.heap[x.blk]? = w.heap[x.blk]?) : Chain w' l := by
  induction l with
  | nil => trivial
  | cons x r ih => exact ⟨(hs x (by simp)).trans h.1, ih h.2 fun y hy => hs y (by simp [hy])⟩
theorem Chain.lt {w : World} {l : List Mm.Nd} (h : Chain w l) : ∀ x ∈ l, x.blk < w.heap.size := by
  induction l with
  | nil => intro x hx; cases hx
  | cons y r ih =>
    intro x hx
    rcases List.mem_cons.1 hx with rfl | hx
    · exact (Array.getElem?_eq_some_iff.1 h.1).1
    · exact ih h.2 x hx
theorem Chain.later {w w' : World} {l : List Mm.Nd} (h : Chain w l) (hb : Below w.heap.size w w') : Chain w' l := h.same fun x hx => hb.block _ (h.lt x hx)

/-- The cells of a node, as a walk reads them. -/
theorem Chain.cells {w : World} {p : List Mm.Nd} {x : Mm.Nd} {r : List Mm.Nd} (h : Chain w (p ++ x :: r)) :
    w.cell? ⟨x.blk, 0, none⟩ = some (str x.ent.key) ∧ w.cell? ⟨x.blk, 1, none⟩ = some (str x.ent.value) ∧ w.cell? ⟨x.blk, 2, none⟩ = some (.int .i64 x.ent.seq) ∧ w.cell? ⟨x.blk, 3, none⟩ = some (.bool x.ent.del) ∧ w.cell? ⟨x.blk, 4, none⟩ = some (.int .i64 (x.num : Int)) := by
  refine ⟨?_, ?_, ?_, ?_, ?_⟩ <;> exact Joins.cell_of_block h.at _
theorem Chain.lane {w : World} {p : List Mm.Nd} {x : Mm.Nd} {r : List Mm.Nd} (h : Chain w (p ++ x :: r)) (k : Nat) (hk : k < 12) (hx : Mm.on k x = true) : w.cell? ⟨x.blk, 5 + k, none⟩ = some (ptr (Mm.nxt k r)) := by
  refine (Joins.cell_of_block h.at (5 + k)).trans ((ndCells_lane x r k hk).trans ?_)
  unfold lk
  rw [if_pos (of_decide_eq_true hx)]

def tabCells (b : Nat) (hv : Value) (hd : Mm.Nd) (n sz : Nat) : Array Value := #[.pointer (some ⟨b, 0, none⟩), hv, .pointer (some ⟨hd.blk, 0, none⟩), .int .i64 (n : Int), .int .i64 (sz : Int)]
def hcs (hs : List Nat) : List Value := hs.map fun (n : Nat) => Value.int .i64 (n : Int)
def bytesOf (ns : List Mm.Nd) : Nat := (ns.map fun x => x.ent.key.length + x.ent.value.length).sum

structure TabAt (w : World) (b : Nat) (hv : Value) (hs : List Nat) (hd : Mm.Nd) (ns : List Mm.Nd) : Prop where
  blk : w.heap[b]? = some (.cells (tabCells b hv hd ns.length (bytesOf ns)) 67 (0, 0))
  row : w.ownsRow 0 3 1 hv hs.length (hcs hs)
  chain : Chain w (hd :: ns)
  sorted : Mm.Sorted ns
  apart : ((hd :: ns).map (·.blk)).Nodup
  off : ∀ x ∈ hd :: ns, x.blk ≠ b
  hoff : ∀ g, hv.ownBlock = some g → g ≠ b ∧ ∀ x ∈ hd :: ns, x.blk ≠ g
  top : hd.h = 12
  tall : ∀ x ∈ ns, 1 ≤ x.h ∧ x.h ≤ 12 ∧ x.num < ns.length
  good : ∀ x ∈ ns, 1 ≤ x.ent.seq ∧ x.ent.seq ≤ 1073741824 ∧ x.ent.key.length ≤ 512 ∧ x.ent.value.length ≤ 4096
  hgood : ∀ n ∈ hs, 1 ≤ n ∧ n ≤ 12

/-- The blocks that a table turns. -/
def tabS (b : Nat) (hd : Mm.Nd) (ns : List Mm.Nd) : Nat → Prop := fun i => i = b ∨ i ∈ (hd :: ns).map (·.blk)

theorem own_same {w w' : World} {base e size : Nat} {v : Value} {n : Nat} {xs : List Value} (h : w.ownsRow base e size v n xs) (hs : ∀ g, v.ownBlock = some g → w'.heap[g]? = w.heap[g]?) : w'.ownsRow base e size v n xs := by
  refine ⟨h.1, ?_⟩
  rcases h.2 with h' | ⟨g, cap, cur, e, h1, h2, h3⟩
  · exact .inl h'
  · refine .inr ⟨g, cap, cur, e, h1, ?_, h3⟩
    rw [hs g (by rw [e]; rfl)]
    exact h2
theorem own_lt {w : World} {base e size : Nat} {v : Value} {n : Nat} {xs : List Value} (h : w.ownsRow base e size v n xs) : ∀ g, v.ownBlock = some g → g < w.heap.size := by
  intro g hg
  rcases h.2 with ⟨rfl, _⟩ | ⟨g', cap, cur, rfl, h1, h2, h3⟩
  · cases hg
  · cases hg; exact (Array.getElem?_eq_some_iff.1 h2).1

theorem TabAt.same {w w' : World} {b : Nat} {hv : Value} {hs : List Nat} {hd : Mm.Nd} {ns : List Mm.Nd} (h : TabAt w b hv hs hd ns) (hb : ∀ i, (tabS b hd ns i ∨ hv.ownBlock = some i) → w'.heap[i]? = w.heap[i]?) : TabAt w' b hv hs hd ns :=
  ⟨(hb b (.inl (.inl rfl))).trans h.blk, own_same h.row fun g hg => hb g (.inr hg), h.chain.same fun x hx => hb _ (.inl (.inr (List.mem_map.2 ⟨x, hx, rfl⟩))), h.sorted, h.apart, h.off, h.hoff, h.top, h.tall, h.good, h.hgood⟩
theorem TabAt.low {w : World} {b : Nat} {hv : Value} {hs : List Nat} {hd : Mm.Nd} {ns : List Mm.Nd} (h : TabAt w b hv hs hd ns) : ∀ i, (tabS b hd ns i ∨ hv.ownBlock = some i) → i < w.heap.size := by
  rintro i ((rfl | hi) | hi)
  · exact (Array.getElem?_eq_some_iff.1 h.blk).1
  · obtain ⟨x, hx, rfl⟩ := List.mem_map.1 hi
    exact h.chain.lt x hx
  · exact own_lt h.row i hi
theorem TabAt.later {w w' : World} {b : Nat} {hv : Value} {hs : List Nat} {hd : Mm.Nd} {ns : List Mm.Nd} (h : TabAt w b hv hs hd ns) (hb : Below w.heap.size w w') : TabAt w' b hv hs hd ns := h.same fun i hi => hb.block i (h.low i hi)
theorem TabAt.cells {w : World} {b : Nat} {hv : Value} {hs : List Nat} {hd : Mm.Nd} {ns : List Mm.Nd} (h : TabAt w b hv hs hd ns) :
    w.cell? ⟨b, 0, none⟩ = some (.pointer (some ⟨b, 0, none⟩)) ∧ w.cell? ⟨b, 1, none⟩ = some hv ∧ w.cell? ⟨b, 2, none⟩ = some (.pointer (some ⟨hd.blk, 0, none⟩)) ∧ w.cell? ⟨b, 3, none⟩ = some (.int .i64 (ns.length : Int)) ∧ w.cell? ⟨b, 4, none⟩ = some (.int .i64 (bytesOf ns : Int)) := by
  refine ⟨?_, ?_, ?_, ?_, ?_⟩ <;> exact Joins.cell_of_block h.blk _

/-! ### Small calls -/
set_option maxHeartbeats 1600000 in
theorem ahead_any (w : World) (a b : Mm.Ent) : Calls Try.prog 13 #[entV a, entV b] w fun e w' => e = .returned (.bool (Mm.ahead a b)) ∧ Below w.heap.size w w' := by
  obtain ⟨k, v, s, d⟩ := a
  obtain ⟨k', v', s', d'⟩ := b
  unfold Mm.ahead entV
  simp only
  by_cases hk : k = k'
  · subst hk
    rw [if_pos rfl]
    by_cases hs : s' < s
    · have i1 : s > s' := hs
      rw [decide_eq_true hs]
      go_enter Try.func13, Try.ntmps13
      go_wp2_with (fail)
      go_ret
      exact ⟨rfl, ((Below.refl _ _).alloc (Nat.le_refl _) _).alloc (by simp) _⟩
    · have i1 : ¬ s > s' := hs
      rw [decide_eq_false hs]
      go_enter Try.func13, Try.ntmps13
      go_wp2_with (fail)
      go_ret
      exact ⟨rfl, ((Below.refl _ _).alloc (Nat.le_refl _) _).alloc (by simp) _⟩
  · rw [if_neg hk]
    have q : (!k == k') = true := by simp [hk]
    cases hB : Op.bytesLess k k' with
    | true =>
      go_enter Try.func13, Try.ntmps13
      go_wp2_with (fail)
      go_ret
      exact ⟨rfl, ((Below.refl _ _).alloc (Nat.le_refl _) _).alloc (by simp) _⟩
    | false =>
      go_enter Try.func13, Try.ntmps13
      go_wp2_with (fail)
      go_ret
      exact ⟨rfl, ((Below.refl _ _).alloc (Nat.le_refl _) _).alloc (by simp) _⟩
end Go.Proofs.Ytbdgdigpnfpnhaa.Q.P
