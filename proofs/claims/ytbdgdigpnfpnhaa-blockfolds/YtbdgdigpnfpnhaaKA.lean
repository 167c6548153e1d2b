/-
  Plain words that the walks of this seat share: what a call may turn, texts as values, cells that stay. .. and what follows from it.
-/
import Derived.Test.YtbdgdigpnfpnhaaProg
import Derived.WalkKit
import Derived.WalkSpells
import Derived.WalkLawsBesides
import Derived.Deep.AppendLies
import Derived.Deep.RegionHeld3
import Derived.Deep.QuietTactic
import Derived.BigQuiet
import Derived.Laws.IdiomStrings
import Derived.Lib.SmallJoins
import Derived.Lib.OwnKind
import Derived.Sort.Walk0
import Derived.RangeFuncRecord
import Derived.Laws.Rows
import Derived.Maps.OwnSet
import Derived.Maps.OwnOps
namespace Go.Proofs.Ytbdgdigpnfpnhaa.Q
open Go.RowKit

theorem hide {p : Prop} (h : p) : Hid p := h
theorem still {f : FuncId} {args : Array Value} {w : World} {v : Ending} (c : Calls Try.prog f args w fun e w' => e = v ∧ w' = w) {K : Ending → World → Prop} (h : K v w) : Calls Try.prog f args w K := c.mono (by rintro e w' ⟨rfl, rfl⟩; exact h)
theorem keepC {w w' : World} {p : Addr} {x : Value} (hb : Below w.heap.size w w') (h : w.cell? p = some x) : w'.cell? p = some x := (hb.cell (World.block_lt_of_cell? w _ h)).trans h
theorem keepB {w w' : World} {b : Nat} {o : Obj} (hb : Below w.heap.size w w') (h : w.heap[b]? = some o) : w'.heap[b]? = some o := (hb.block b (Array.getElem?_eq_some_iff.1 h).1).trans h
theorem grown_any {w w' : World} {r : Option Nat} (hb : Below w.heap.size w w') : w.grownBy w' r := ⟨hb.os, hb.tape, hb.output, hb.size, fun k hk _ => hb.block k hk⟩
theorem row_shape {w : World} {base e size : Nat} {v : Value} {n : Nat} {xs : List Value} (h : w.ownsRow base e size v n xs) : ∃ a c, v = .slice a n c := by
  rcases h.2 with ⟨rfl, h0⟩ | ⟨g, cap, cur, rfl, _⟩
  · subst h0; exact ⟨none, 0, rfl⟩
  · exact ⟨_, _, rfl⟩
theorem grownBy_trans {a b c : World} {r s : Option Nat} (h : a.grownBy b r) (k : b.grownBy c s) (hs : s = r ∨ ∃ g, s = some g ∧ a.heap.size ≤ g) : a.grownBy c r :=
  ⟨k.os.trans h.os, k.tape.trans h.tape, k.output.trans h.output, Nat.le_trans h.size k.size, fun i hi hne => by
    refine (k.block i (Nat.lt_of_lt_of_le hi h.size) ?_).trans (h.block i hi hne)
    rcases hs with rfl | ⟨g, rfl, hg⟩
    · exact hne
    · intro e
      have : i = g := Option.some.inj e
      omega⟩

namespace Vf
abbrev Bs := List UInt8
end Vf
/-- A text's value. -/
abbrev str (k : Vf.Bs) : Value := .string ⟨k.toArray⟩
theorem str_of (s : ByteArray) : Value.string s = str s.data.toList := by simp

/-- Nothing has turned but blocks of S, and new ones. -/
structure Moved (S : Nat → Prop) (w w' : World) : Prop where
  os : w'.os = w.os
  tape : w'.tape = w.tape
  output : w'.output = w.output
  size : w.heap.size ≤ w'.heap.size
  block : ∀ k, k < w.heap.size → ¬ S k → w'.heap[k]? = w.heap[k]?

theorem Moved.refl (S : Nat → Prop) (w : World) : Moved S w w := ⟨rfl, rfl, rfl, Nat.le_refl _, fun _ _ _ => rfl⟩
theorem Moved.trans {S T : Nat → Prop} {a b c : World} (h : Moved S a b) (k : Moved T b c) (hT : ∀ i, i < a.heap.size → T i → S i) : Moved S a c :=
  ⟨k.os.trans h.os, k.tape.trans h.tape, k.output.trans h.output, Nat.le_trans h.size k.size, fun i hi hs => (k.block i (Nat.lt_of_lt_of_le hi h.size) (fun ht => hs (hT i hi ht))).trans (h.block i hi hs)⟩
theorem Moved.drew {S : Nat → Prop} {a b : World} (h : Moved S a b) : Moved S a b.drew := ⟨h.os, h.tape, h.output, h.size, h.block⟩
theorem Moved.below {S : Nat → Prop} {w w' : World} (h : Below w.heap.size w w') : Moved S w w' := ⟨h.os, h.tape, h.output, h.size, fun i hi _ => h.block i hi⟩
theorem Moved.alloc {S : Nat → Prop} {a b : World} (h : Moved S a b) (o : Obj) : Moved S a (b.alloc o) := h.trans (T := fun _ => False) (Moved.below ((Below.refl _ _).alloc (Nat.le_refl _) o)) (fun _ _ h => h.elim)
theorem Moved.setCell {S : Nat → Prop} {a b : World} (h : Moved S a b) {p : Addr} (hp : p.block < a.heap.size → S p.block) (u : Value) : Moved S a (b.setCell p u) :=
  h.trans (T := fun i => i = p.block) ⟨rfl, rfl, rfl, by simp [World.setCell], fun i _ hs => Below.heap_setCell _ _ _ _ hs⟩ (fun i hi ht => by subst ht; exact hp hi)
theorem Moved.under {S : Nat → Prop} {a b : World} (h : Moved S a b) {B : Nat} (hB : B ≤ a.heap.size) (hS : ∀ i, S i → B ≤ i) : Below B a b := ⟨h.os, h.tape, h.output, h.size, fun i hi => h.block i (by omega) (fun hs => by have := hS i hs; omega)⟩
theorem Moved.wide {S T : Nat → Prop} {a b : World} (h : Moved S a b) (hs : ∀ i, i < a.heap.size → S i → T i) : Moved T a b := (Moved.refl T a).trans h hs
end Go.Proofs.Ytbdgdigpnfpnhaa.Q
namespace Go.Proofs.Ytbdgdigpnfpnhaa.Q
namespace Mm
abbrev Bs := List UInt8

structure Ent where
  key : Bs
  value : Bs
  seq : Int
  del : Bool

/-- Is a ahead of b? -/
def ahead (a b : Ent) : Bool := if a.key = b.key then decide (b.seq < a.seq) else Op.bytesLess a.key b.key

theorem bl_irrefl (x : Bs) : Op.bytesLess x x = false := by rw [Go.Proofs.bytesLess_eq]; exact decide_eq_false (List.lt_irrefl x)
theorem bl_trans {x y z : Bs} (h : Op.bytesLess x y = true) (k : Op.bytesLess y z = true) : Op.bytesLess x z = true := by
  rw [Go.Proofs.bytesLess_eq] at *
  exact decide_eq_true (List.lt_trans (of_decide_eq_true h) (of_decide_eq_true k))
theorem bl_total {x y : Bs} (h : Op.bytesLess x y = false) (k : Op.bytesLess y x = false) : x = y := by
  rw [Go.Proofs.bytesLess_eq] at *
  exact List.le_antisymm (List.not_lt.1 (of_decide_eq_false k)) (List.not_lt.1 (of_decide_eq_false h))

theorem ahead_irrefl (a : Ent) : ahead a a = false := by simp [ahead]
theorem ahead_trans {a b c : Ent} (h : ahead a b = true) (k : ahead b c = true) : ahead a c = true := by
  unfold ahead at *
  by_cases h1 : a.key = b.key
  · by_cases h2 : b.key = c.key
    · rw [if_pos h1] at h; rw [if_pos h2] at k; rw [if_pos (h1.trans h2)]
      have := of_decide_eq_true h; have := of_decide_eq_true k
      exact decide_eq_true (by omega)
    · rw [if_neg h2] at k; rw [if_neg (by rw [h1]; exact h2), h1]; exact k
  · rw [if_neg h1] at h
    by_cases h2 : b.key = c.key
    · rw [if_neg (by rw [← h2]; exact h1), ← h2]; exact h
    · rw [if_neg h2] at k
      have t := bl_trans h k
      by_cases h3 : a.key = c.key
      · rw [h3, bl_irrefl] at t; cases t
      · rw [if_neg h3]; exact t
theorem ahead_total {a b : Ent} (h : ahead a b = false) (k : ahead b a = false) : a.key = b.key ∧ a.seq = b.seq := by
  unfold ahead at *
  by_cases h1 : a.key = b.key
  · rw [if_pos h1] at h; rw [if_pos h1.symm] at k
    have := of_decide_eq_false h; have := of_decide_eq_false k
    exact ⟨h1, by omega⟩
  · rw [if_neg h1] at h; rw [if_neg (fun e => h1 e.symm)] at k
    exact absurd (bl_total h k) h1
theorem ahead_asym {a b : Ent} (h : ahead a b = true) : ahead b a = false := by
  cases k : ahead b a with
  | false => rfl
  | true => have := ahead_trans h k; rw [ahead_irrefl] at this; cases this

structure Nd where
  blk : Nat
  ent : Ent
  num : Nat
  h : Nat

def on (k : Nat) (x : Nd) : Bool := decide (k < x.h)
/-- The next one of a lane. -/
def nxt (k : Nat) (r : List Nd) : Option Nd := r.find? (on k)
/-- The last one of a lane; d stands ahead of all. -/
def lastL (k : Nat) : Nd → List Nd → Nd
  | d, [] => d
  | d, y :: r => if on k y then lastL k y r else lastL k d r
def front (e : Ent) (ns : List Nd) : List Nd := ns.takeWhile fun x => ahead x.ent e
def back (e : Ent) (ns : List Nd) : List Nd := ns.dropWhile fun x => ahead x.ent e
def Sorted (ns : List Nd) : Prop := ns.Pairwise fun x y => ahead x.ent y.ent = true

theorem parts (e : Ent) (ns : List Nd) : front e ns ++ back e ns = ns := List.takeWhile_append_dropWhile
theorem front_yes {e : Ent} {ns : List Nd} : ∀ y ∈ front e ns, ahead y.ent e = true := fun y hy => by
  unfold front at hy
  induction ns with
  | nil => cases hy
  | cons x r ih =>
    rw [List.takeWhile_cons] at hy
    cases hx : ahead x.ent e with
    | true =>
      rw [hx, if_pos rfl] at hy
      rcases List.mem_cons.1 hy with rfl | hy
      · exact hx
      · exact ih hy
    | false => rw [hx, if_neg (by simp)] at hy; cases hy
theorem back_not {e : Ent} {ns : List Nd} (h : Sorted ns) : ∀ y ∈ back e ns, ahead y.ent e = false := by
  induction ns with
  | nil => intro y hy; cases hy
  | cons x r ih =>
    obtain ⟨h1, h2⟩ := List.pairwise_cons.1 h
    intro y hy
    unfold back at hy
    rw [List.dropWhile_cons] at hy
    cases hx : ahead x.ent e with
    | true => rw [hx] at hy; exact ih h2 y hy
    | false =>
      rw [hx, if_neg (by simp)] at hy
      rcases List.mem_cons.1 hy with rfl | hy
      · exact hx
      · cases hy' : ahead y.ent e with
        | false => rfl
        | true => have := ahead_trans (h1 y hy) hy'; rw [hx] at this; cases this

theorem nxt_none {k : Nat} {r : List Nd} : nxt k r = none ↔ ∀ y ∈ r, on k y = false := by
  unfold nxt
  rw [List.find?_eq_none]
  exact ⟨fun h y hy => by simpa using h y hy, fun h y hy => by simp [h y hy]⟩
theorem nxt_some {k : Nat} {r : List Nd} {y : Nd} (h : nxt k r = some y) : ∃ r1 r2, r = r1 ++ y :: r2 ∧ on k y = true ∧ ∀ z ∈ r1, on k z = false := by
  unfold nxt at h
  obtain ⟨h1, r1, r2, rfl, h2⟩ := List.find?_eq_some_iff_append.1 h
  exact ⟨r1, r2, rfl, h1, fun z hz => by simpa using h2 z hz⟩
theorem nxt_append {k : Nat} {q b : List Nd} : nxt k (q ++ b) = (nxt k q).or (nxt k b) := by
  unfold nxt; exact List.find?_append
theorem lastL_none {k : Nat} {d : Nd} {r : List Nd} (h : ∀ y ∈ r, on k y = false) : lastL k d r = d := by
  induction r with
  | nil => rfl
  | cons y r ih => rw [lastL, h y (by simp), if_neg (by simp)]; exact ih fun z hz => h z (by simp [hz])
theorem lastL_mid {k : Nat} {d x : Nd} {p q : List Nd} (hx : on k x = true) (hq : ∀ y ∈ q, on k y = false) : lastL k d (p ++ x :: q) = x := by
  induction p generalizing d with
  | nil => rw [List.nil_append, lastL, hx, if_pos rfl]; exact lastL_none hq
  | cons y p ih =>
    rw [List.cons_append, lastL]
    split
    · exact ih
    · exact ih
/-- The last one of a lane, where one stands and none of the lane is behind. -/
theorem lastL_at {k : Nat} {hd x : Nd} {a p q : List Nd} (he : hd :: a = p ++ x :: q) (hx : on k x = true) (hq : ∀ y ∈ q, on k y = false) : lastL k hd a = x := by
  cases p with
  | nil =>
    cases he
    exact lastL_none hq
  | cons z p =>
    cases he
    exact lastL_mid hx hq

def cnt (k : Nat) (q : List Nd) : Nat := (q.filter (on k)).length
/-- What is behind the last one of a lane. -/
def rest (k : Nat) : List Nd → List Nd
  | [] => []
  | y :: r => if r.any (on k) then rest k r else if on k y then r else y :: r
def one (k : Nat) (b : List Nd) : Nat := if b.any (on k) then 1 else 0
/-- The steps in the lanes k - 1 down to 0, with q behind the place at which one stands and b behind the one that is looked for. -/
def costs (b : List Nd) : Nat → List Nd → Nat
  | 0, _ => 0
  | k + 1, q => cnt k q + one k b + costs b k (rest k q)

theorem any_none {k : Nat} {q : List Nd} (h : ∀ y ∈ q, on k y = false) : q.any (on k) = false := by
  rw [List.any_eq_false]; intro y hy; rw [h y hy]; simp
theorem rest_none {k : Nat} {q : List Nd} (h : ∀ y ∈ q, on k y = false) : rest k q = q := by
  cases q with
  | nil => rfl
  | cons y r => rw [rest, any_none fun z hz => h z (by simp [hz]), if_neg (by simp), h y (by simp), if_neg (by simp)]
theorem rest_move {k : Nat} {y : Nd} {q2 : List Nd} (hy : on k y = true) (q1 : List Nd) : rest k (q1 ++ y :: q2) = rest k q2 := by
  induction q1 with
  | nil =>
    rw [List.nil_append, rest]
    cases h : q2.any (on k) with
    | true => rw [if_pos rfl]
    | false =>
      rw [if_neg (by simp), hy, if_pos rfl, rest_none]
      intro z hz
      have := List.any_eq_false.1 h z hz
      simpa using this
  | cons z q1 ih =>
    rw [List.cons_append, rest, if_pos (List.any_eq_true.2 ⟨y, by simp, hy⟩)]
    exact ih
theorem cnt_none {k : Nat} {q : List Nd} (h : ∀ y ∈ q, on k y = false) : cnt k q = 0 := by
  unfold cnt
  rw [List.filter_eq_nil_iff.2 (fun y hy => by rw [h y hy]; simp)]
  rfl
theorem cnt_move {k : Nat} {y : Nd} {q1 q2 : List Nd} (hy : on k y = true) (h1 : ∀ z ∈ q1, on k z = false) : cnt k (q1 ++ y :: q2) = cnt k q2 + 1 := by
  unfold cnt
  rw [List.filter_append, List.filter_eq_nil_iff.2 (fun y hy => by rw [h1 y hy]; simp), List.nil_append, List.filter_cons, if_pos hy, List.length_cons]
theorem rest_len (k : Nat) (q : List Nd) : (rest k q).length + cnt k q ≤ q.length := by
  induction q with
  | nil => simp [rest, cnt]
  | cons y r ih =>
    have hc : cnt k (y :: r) ≤ cnt k r + 1 := by
      unfold cnt; rw [List.filter_cons]; split <;> simp
    rw [rest]
    cases h : r.any (on k) with
    | true => rw [if_pos rfl, List.length_cons]; omega
    | false =>
      have h0 : ∀ z ∈ r, on k z = false := fun z hz => by have := List.any_eq_false.1 h z hz; simpa using this
      have c0 := cnt_none h0
      rw [if_neg (by simp)]
      cases hy : on k y with
      | true => rw [if_pos rfl, List.length_cons]; omega
      | false =>
        rw [if_neg (by simp), List.length_cons]
        have : cnt k (y :: r) = 0 := cnt_none (fun z hz => by
          rcases List.mem_cons.1 hz with rfl | hz
          · exact hy
          · exact h0 z hz)
        omega
theorem costs_le (b : List Nd) (k : Nat) (q : List Nd) : costs b k q ≤ q.length + k := by
  induction k generalizing q with
  | zero => simp [costs]
  | succ k ih =>
    have h1 := ih (rest k q)
    have h2 := rest_len k q
    have h3 : one k b ≤ 1 := by unfold one; split <;> omega
    rw [costs]
    omega
end Mm
end Go.Proofs.Ytbdgdigpnfpnhaa.Q
namespace Go.Proofs.Ytbdgdigpnfpnhaa.Q
open Go.RowKit Go.Maps Go.MapKept Go.ChangeMaps

theorem lawS : Keyed Try.prog 9 := string_keyed Try.underlying9
theorem keyS (k : Vf.Bs) (h : k.length ≤ 1000000) : keyOf Try.prog 9 (str k) = some (.string k) := by
  have := WideMaps.keyOf_string_mk (P := Try.prog) (k := 9) Try.underlying9 (s := ⟨k.toArray⟩) (by show k.toArray.size ≤ maxLen; simp [maxLen]; omega)
  simpa using this
theorem keyLitS (k : Vf.Bs) : WideAt.IsKeyLit (.string k) := by trivial

namespace Wl
abbrev Bs := List UInt8
structure Wr where
  key : Bs
  value : Bs
  del : Bool
/-- May a write be? -/
def mayBe (x : Wr) : Bool := decide (x.key ≠ []) && decide (x.key.length ≤ 512) && decide (x.value.length ≤ 4096) && (!x.del || decide (x.value = []))
/-- Have two one key? -/
def shared : List Wr → Bool
  | [] => false
  | x :: r => r.any (fun y => decide (y.key = x.key)) || shared r
def checkE (l : List Wr) : Int :=
  if l.length = 0 then 2 else if l.length > 64 then 3 else if l.all mayBe then if shared l then 9 else 0 else 2
end Wl

/-- Writes, where they can be read. -/
structure WrsAt (w : World) (v : Value) (l : List Wl.Wr) : Prop where
  form : ∃ a cap, v = .slice a l.length cap ∧ (l ≠ [] → ∃ b off, a = some ⟨b, off, none⟩ ∧ ∀ j (h : j < l.length), w.cell? ⟨b, off + j * 3, none⟩ = some (str l[j].key) ∧ w.cell? ⟨b, off + j * 3 + 1, none⟩ = some (str l[j].value) ∧ w.cell? ⟨b, off + j * 3 + 2, none⟩ = some (.bool l[j].del))

theorem WrsAt.same {w w' : World} {v : Value} {l : List Wl.Wr} (h : WrsAt w v l) (hs : ∀ a n c, v = .slice (some a) n c → l ≠ [] → w'.heap[a.block]? = w.heap[a.block]?) : WrsAt w' v l := by
  obtain ⟨⟨a, cap, e, hf⟩⟩ := h
  refine ⟨⟨a, cap, e, fun h0 => ?_⟩⟩
  obtain ⟨b, off, ha, hat⟩ := hf h0
  subst ha
  have hb := hs _ _ _ e h0
  refine ⟨b, off, rfl, fun j hj => ?_⟩
  have hc : ∀ i, w'.cell? ⟨b, i, none⟩ = w.cell? ⟨b, i, none⟩ := fun i => by
    simp only [World.cell?]
    show (match w'.heap[b]? with | _ => _) = (match w.heap[b]? with | _ => _)
    rw [show w'.heap[b]? = w.heap[b]? from hb]
  obtain ⟨c0, c1, c2⟩ := hat j hj
  rw [hc, hc, hc]
  exact ⟨c0, c1, c2⟩
theorem WrsAt.later {w w' : World} {v : Value} {l : List Wl.Wr} (h : WrsAt w v l) (hb : Below w.heap.size w w') : WrsAt w' v l := by
  obtain ⟨⟨a, cap, e, hf⟩⟩ := h
  refine ⟨⟨a, cap, e, fun h0 => ?_⟩⟩
  obtain ⟨b, off, ha, hat⟩ := hf h0
  exact ⟨b, off, ha, fun j hj => ⟨keepC hb (hat j hj).1, keepC hb (hat j hj).2.1, keepC hb (hat j hj).2.2⟩⟩
theorem WrsAt.cells {w : World} {b off n cap : Nat} {l : List Wl.Wr} (h : WrsAt w (.slice (some ⟨b, off, none⟩) n cap) l) (j : Nat) (hj : j < l.length) :
    w.cell? ⟨b, off + j * 3, none⟩ = some (str l[j].key) ∧ w.cell? ⟨b, off + j * 3 + 1, none⟩ = some (str l[j].value) ∧ w.cell? ⟨b, off + j * 3 + 2, none⟩ = some (.bool l[j].del) := by
  obtain ⟨⟨a, c, e, hf⟩⟩ := h
  obtain ⟨b', off', ha, hat⟩ := hf (fun h0 => by rw [h0] at hj; cases hj)
  cases e
  cases ha
  exact hat j hj
theorem WrsAt.some {w : World} {a : Option Addr} {n cap : Nat} {l : List Wl.Wr} (h : WrsAt w (.slice a n cap) l) (h0 : 0 < l.length) : ∃ b off, a = some ⟨b, off, none⟩ := by
  obtain ⟨⟨a', c', e, hf⟩⟩ := h
  obtain ⟨b, off, ha, _⟩ := hf (fun h1 => by rw [h1] at h0; cases h0)
  cases e
  exact ⟨b, off, ha⟩
theorem WrsAt.len {w : World} {a : Option Addr} {n cap : Nat} {l : List Wl.Wr} (h : WrsAt w (.slice a n cap) l) : n = l.length := by
  obtain ⟨⟨a', c', e, _⟩⟩ := h
  cases e; rfl
theorem WrsAt.nil (w : World) (a : Option Addr) (c : Nat) : WrsAt w (.slice a 0 c) [] := ⟨⟨a, c, rfl, fun h => absurd rfl h⟩⟩
end Go.Proofs.Ytbdgdigpnfpnhaa.Q
