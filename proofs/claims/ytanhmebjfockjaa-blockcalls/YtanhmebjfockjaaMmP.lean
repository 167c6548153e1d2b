/-
  A memtable in plain words: entries, their order, nodes with their towers, what stands ahead of an entry, lanes, and the steps to an entry. Nothing here speaks of the program.
-/
import Derived.Test.YtanhmebjfockjaaMBase
import Derived.RangeFuncRecord
import Derived.Laws.Rows
namespace Go.Proofs.Ytanhmebjfockjaa
namespace Mm
abbrev Bs := List UInt8

structure Ent where
  key : Bs
  value : Bs
  seq : Int
  del : Bool

/-- Is a ahead of b? -/
def ahead (a b : Ent) : Bool := if a.key = b.key then decide (b.seq < a.seq) else Op.bytesLess a.key b.key

theorem bl_irrefl (x : Bs) : Op.bytesLess x x = false := by rw [Go.Proofs.bytesLess_eq]; exact decide_eq_false (List.lt_irrefl x)
theorem bl_trans {x y z : Bs} (h : Op.bytesLess x y = true) (k : Op.bytesLess y z = true) : Op.bytesLess x z = true := by
  rw [Go.Proofs.bytesLess_eq] at *
  exact decide_eq_true (List.lt_trans (of_decide_eq_true h) (of_decide_eq_true k))
theorem bl_total {x y : Bs} (h : Op.bytesLess x y = false) (k : Op.bytesLess y x = false) : x = y := by
  rw [Go.Proofs.bytesLess_eq] at *
  exact List.le_antisymm (List.not_lt.1 (of_decide_eq_false k)) (List.not_lt.1 (of_decide_eq_false h))

theorem ahead_irrefl (a : Ent) : ahead a a = false := by simp [ahead]
theorem ahead_trans {a b c : Ent} (h : ahead a b = true) (k : ahead b c = true) : ahead a c = true := by
  unfold ahead at *
  by_cases h1 : a.key = b.key
  · by_cases h2 : b.key = c.key
    · rw [if_pos h1] at h; rw [if_pos h2] at k; rw [if_pos (h1.trans h2)]
      have := of_decide_eq_true h; have := of_decide_eq_true k
      exact decide_eq_true (by omega)
    · rw [if_neg h2] at k; rw [if_neg (by rw [h1]; exact h2), h1]; exact k
  · rw [if_neg h1] at h
    by_cases h2 : b.key = c.key
    · rw [if_neg (by rw [← h2]; exact h1), ← h2]; exact h
    · rw [if_neg h2] at k
      have t := bl_trans h k
      by_cases h3 : a.key = c.key
      · rw [h3, bl_irrefl] at t; cases t
      · rw [if_neg h3]; exact t
theorem ahead_total {a b : Ent} (h : ahead a b = false) (k : ahead b a = false) : a.key = b.key ∧ a.seq = b.seq := by
  unfold ahead at *
  by_cases h1 : a.key = b.key
  · rw [if_pos h1] at h; rw [if_pos h1.symm] at k
    have := of_decide_eq_false h; have := of_decide_eq_false k
    exact ⟨h1, by omega⟩
  · rw [if_neg h1] at h; rw [if_neg (fun e => h1 e.symm)] at k
    exact absurd (bl_total h k) h1
theorem ahead_asym {a b : Ent} (h : ahead a b = true) : ahead b a = false := by
  cases k : ahead b a with
  | false => rfl
  | true => have := ahead_trans h k; rw [ahead_irrefl] at this; cases this

structure Nd where
  blk : Nat
  ent : Ent
  num : Nat
  h : Nat

def on (k : Nat) (x : Nd) : Bool := decide (k < x.h)
/-- The next one of a lane. -/
def nxt (k : Nat) (r : List Nd) : Option Nd := r.find? (on k)
/-- The last one of a lane; d stands ahead of all. -/
def lastL (k : Nat) : Nd → List Nd → Nd
  | d, [] => d
  | d, y :: r => if on k y then lastL k y r else lastL k d r
def front (e : Ent) (ns : List Nd) : List Nd := ns.takeWhile fun x => ahead x.ent e
def back (e : Ent) (ns : List Nd) : List Nd := ns.dropWhile fun x => ahead x.ent e
def Sorted (ns : List Nd) : Prop := ns.Pairwise fun x y => ahead x.ent y.ent = true

theorem parts (e : Ent) (ns : List Nd) : front e ns ++ back e ns = ns := List.takeWhile_append_dropWhile
theorem front_yes {e : Ent} {ns : List Nd} : ∀ y ∈ front e ns, ahead y.ent e = true := fun y hy => by
  unfold front at hy
  induction ns with
  | nil => cases hy
  | cons x r ih =>
    rw [List.takeWhile_cons] at hy
    cases hx : ahead x.ent e with
    | true =>
      rw [hx, if_pos rfl] at hy
      rcases List.mem_cons.1 hy with rfl | hy
      · exact hx
      · exact ih hy
    | false => rw [hx, if_neg (by simp)] at hy; cases hy
theorem back_not {e : Ent} {ns : List Nd} (h : Sorted ns) : ∀ y ∈ back e ns, ahead y.ent e = false := by
  induction ns with
  | nil => intro y hy; cases hy
  | cons x r ih =>
    obtain ⟨h1, h2⟩ := List.pairwise_cons.1 h
    intro y hy
    unfold back at hy
    rw [List.dropWhile_cons] at hy
    cases hx : ahead x.ent e with
    | true => rw [hx] at hy; exact ih h2 y hy
    | false =>
      rw [hx, if_neg (by simp)] at hy
      rcases List.mem_cons.1 hy with rfl | hy
      · exact hx
      · cases hy' : ahead y.ent e with
        | false => rfl
        | true => have := ahead_trans (h1 y hy) hy'; rw [hx] at this; cases this

theorem nxt_none {k : Nat} {r : List Nd} : nxt k r = none ↔ ∀ y ∈ r, on k y = false := by
  unfold nxt
  rw [List.find?_eq_none]
  exact ⟨fun h y hy => by simpa using h y hy, fun h y hy => by simp [h y hy]⟩
theorem nxt_some {k : Nat} {r : List Nd} {y : Nd} (h : nxt k r = some y) : ∃ r1 r2, r = r1 ++ y :: r2 ∧ on k y = true ∧ ∀ z ∈ r1, on k z = false := by
  unfold nxt at h
  obtain ⟨h1, r1, r2, rfl, h2⟩ := List.find?_eq_some_iff_append.1 h
  exact ⟨r1, r2, rfl, h1, fun z hz => by simpa using h2 z hz⟩
theorem nxt_append {k : Nat} {q b : List Nd} : nxt k (q ++ b) = (nxt k q).or (nxt k b) := by
  unfold nxt; exact List.find?_append
theorem lastL_none {k : Nat} {d : Nd} {r : List Nd} (h : ∀ y ∈ r, on k y = false) : lastL k d r = d := by
  induction r with
  | nil => rfl
  | cons y r ih => rw [lastL, h y (by simp), if_neg (by simp)]; exact ih fun z hz => h z (by simp [hz])
theorem lastL_mid {k : Nat} {d x : Nd} {p q : List Nd} (hx : on k x = true) (hq : ∀ y ∈ q, on k y = false) : lastL k d (p ++ x :: q) = x := by
  induction p generalizing d with
  | nil => rw [List.nil_append, lastL, hx, if_pos rfl]; exact lastL_none hq
  | cons y p ih =>
    rw [List.cons_append, lastL]
    split
    · exact ih
    · exact ih
/-- The last one of a lane, where one stands and none of the lane is behind. -/
theorem lastL_at {k : Nat} {hd x : Nd} {a p q : List Nd} (he : hd :: a = p ++ x :: q) (hx : on k x = true) (hq : ∀ y ∈ q, on k y = false) : lastL k hd a = x := by
  cases p with
  | nil =>
    cases he
    exact lastL_none hq
  | cons z p =>
    cases he
    exact lastL_mid hx hq

def cnt (k : Nat) (q : List Nd) : Nat := (q.filter (on k)).length
/-- What is behind the last one of a lane. -/
def rest (k : Nat) : List Nd → List Nd
  | [] => []
  | y :: r => if r.any (on k) then rest k r else if on k y then r else y :: r
def one (k : Nat) (b : List Nd) : Nat := if b.any (on k) then 1 else 0
/-- The steps in the lanes k - 1 down to 0, with q behind the place at which one stands and b behind the one that is looked for. -/
def costs (b : List Nd) : Nat → List Nd → Nat
  | 0, _ => 0
  | k + 1, q => cnt k q + one k b + costs b k (rest k q)

theorem any_none {k : Nat} {q : List Nd} (h : ∀ y ∈ q, on k y = false) : q.any (on k) = false := by
  rw [List.any_eq_false]; intro y hy; rw [h y hy]; simp
theorem rest_none {k : Nat} {q : List Nd} (h : ∀ y ∈ q, on k y = false) : rest k q = q := by
  cases q with
  | nil => rfl
  | cons y r => rw [rest, any_none fun z hz => h z (by simp [hz]), if_neg (by simp), h y (by simp), if_neg (by simp)]
theorem rest_move {k : Nat} {y : Nd} {q2 : List Nd} (hy : on k y = true) (q1 : List Nd) : rest k (q1 ++ y :: q2) = rest k q2 := by
  induction q1 with
  | nil =>
    rw [List.nil_append, rest]
    cases h : q2.any (on k) with
    | true => rw [if_pos rfl]
    | false =>
      rw [if_neg (by simp), hy, if_pos rfl, rest_none]
      intro z hz
      have := List.any_eq_false.1 h z hz
      simpa using this
  | cons z q1 ih =>
    rw [List.cons_append, rest, if_pos (List.any_eq_true.2 ⟨y, by simp, hy⟩)]
    exact ih
theorem cnt_none {k : Nat} {q : List Nd} (h : ∀ y ∈ q, on k y = false) : cnt k q = 0 := by
  unfold cnt
  rw [List.filter_eq_nil_iff.2 (fun y hy => by rw [h y hy]; simp)]
  rfl
theorem cnt_move {k : Nat} {y : Nd} {q1 q2 : List Nd} (hy : on k y = true) (h1 : ∀ z ∈ q1, on k z = false) : cnt k (q1 ++ y :: q2) = cnt k q2 + 1 := by
  unfold cnt
  rw [List.filter_append, List.filter_eq_nil_iff.2 (fun y hy => by rw [h1 y hy]; simp), List.nil_append, List.filter_cons, if_pos hy, List.length_cons]
theorem rest_len (k : Nat) (q : List Nd) : (rest k q).length + cnt k q ≤ q.length := by
  induction q with
  | nil => simp [rest, cnt]
  | cons y r ih =>
    have hc : cnt k (y :: r) ≤ cnt k r + 1 := by
      unfold cnt; rw [List.filter_cons]; split <;> simp
    rw [rest]
    cases h : r.any (on k) with
    | true => rw [if_pos rfl, List.length_cons]; omega
    | false =>
      have h0 : ∀ z ∈ r, on k z = false := fun z hz => by have := List.any_eq_false.1 h z hz; simpa using this
      have c0 := cnt_none h0
      rw [if_neg (by simp)]
      cases hy : on k y with
      | true => rw [if_pos rfl, List.length_cons]; omega
      | false =>
        rw [if_neg (by simp), List.length_cons]
        have : cnt k (y :: r) = 0 := cnt_none (fun z hz => by
          rcases List.mem_cons.1 hz with rfl | hz
          · exact hy
          · exact h0 z hz)
        omega
theorem costs_le (b : List Nd) (k : Nat) (q : List Nd) : costs b k q ≤ q.length + k := by
  induction k generalizing q with
  | zero => simp [costs]
  | succ k ih =>
    have h1 := ih (rest k q)
    have h2 := rest_len k q
    have h3 : one k b ≤ 1 := by unfold one; split <;> omega
    rw [costs]
    omega
end Mm
end Go.Proofs.Ytanhmebjfockjaa
