/-
  Plain words that the walks of this seat share: what a call may turn, texts as values, cells that stay.
-/
import Derived.Test.YtanhmebjfockjaaProg
import Derived.WalkKit
import Derived.WalkSpells
import Derived.WalkLawsBesides
import Derived.Deep.AppendLies
import Derived.Deep.RegionHeld3
import Derived.Deep.QuietTactic
import Derived.BigQuiet
import Derived.Laws.IdiomStrings
import Derived.Lib.SmallJoins
import Derived.Lib.OwnKind
import Derived.Sort.Walk0
namespace Go.Proofs.Ytanhmebjfockjaa
open Go.RowKit

theorem hide {p : Prop} (h : p) : Hid p := h
theorem still {f : FuncId} {args : Array Value} {w : World} {v : Ending} (c : Calls Try.prog f args w fun e w' => e = v ∧ w' = w) {K : Ending → World → Prop} (h : K v w) : Calls Try.prog f args w K := c.mono (by rintro e w' ⟨rfl, rfl⟩; exact h)
theorem keepC {w w' : World} {p : Addr} {x : Value} (hb : Below w.heap.size w w') (h : w.cell? p = some x) : w'.cell? p = some x := (hb.cell (World.block_lt_of_cell? w _ h)).trans h
theorem keepB {w w' : World} {b : Nat} {o : Obj} (hb : Below w.heap.size w w') (h : w.heap[b]? = some o) : w'.heap[b]? = some o := (hb.block b (Array.getElem?_eq_some_iff.1 h).1).trans h
theorem grown_any {w w' : World} {r : Option Nat} (hb : Below w.heap.size w w') : w.grownBy w' r := ⟨hb.os, hb.tape, hb.output, hb.size, fun k hk _ => hb.block k hk⟩
theorem row_shape {w : World} {base e size : Nat} {v : Value} {n : Nat} {xs : List Value} (h : w.ownsRow base e size v n xs) : ∃ a c, v = .slice a n c := by
  rcases h.2 with ⟨rfl, h0⟩ | ⟨g, cap, cur, rfl, _⟩
  · subst h0; exact ⟨none, 0, rfl⟩
  · exact ⟨_, _, rfl⟩
theorem grownBy_trans {a b c : World} {r s : Option Nat} (h : a.grownBy b r) (k : b.grownBy c s) (hs : s = r ∨ ∃ g, s = some g ∧ a.heap.size ≤ g) : a.grownBy c r :=
  ⟨k.os.trans h.os, k.tape.trans h.tape, k.output.trans h.output, Nat.le_trans h.size k.size, fun i hi hne => by
    refine (k.block i (Nat.lt_of_lt_of_le hi h.size) ?_).trans (h.block i hi hne)
    rcases hs with rfl | ⟨g, rfl, hg⟩
    · exact hne
    · intro e
      have : i = g := Option.some.inj e
      omega⟩

namespace Vf
abbrev Bs := List UInt8
end Vf
/-- A text's value. -/
abbrev str (k : Vf.Bs) : Value := .string ⟨k.toArray⟩
theorem str_of (s : ByteArray) : Value.string s = str s.data.toList := by simp

/-- Nothing has turned but blocks of S, and new ones. -/
structure Moved (S : Nat → Prop) (w w' : World) : Prop where
  os : w'.os = w.os
  tape : w'.tape = w.tape
  output : w'.output = w.output
  size : w.heap.size ≤ w'.heap.size
  block : ∀ k, k < w.heap.size → ¬ S k → w'.heap[k]? = w.heap[k]?

theorem Moved.refl (S : Nat → Prop) (w : World) : Moved S w w := ⟨rfl, rfl, rfl, Nat.le_refl _, fun _ _ _ => rfl⟩
theorem Moved.trans {S T : Nat → Prop} {a b c : World} (h : Moved S a b) (k : Moved T b c) (hT : ∀ i, i < a.heap.size → T i → S i) : Moved S a c :=
  ⟨k.os.trans h.os, k.tape.trans h.tape, k.output.trans h.output, Nat.le_trans h.size k.size, fun i hi hs => (k.block i (Nat.lt_of_lt_of_le hi h.size) (fun ht => hs (hT i hi ht))).trans (h.block i hi hs)⟩
theorem Moved.drew {S : Nat → Prop} {a b : World} (h : Moved S a b) : Moved S a b.drew := ⟨h.os, h.tape, h.output, h.size, h.block⟩
theorem Moved.below {S : Nat → Prop} {w w' : World} (h : Below w.heap.size w w') : Moved S w w' := ⟨h.os, h.tape, h.output, h.size, fun i hi _ => h.block i hi⟩
theorem Moved.alloc {S : Nat → Prop} {a b : World} (h : Moved S a b) (o : Obj) : Moved S a (b.alloc o) := h.trans (T := fun _ => False) (Moved.below ((Below.refl _ _).alloc (Nat.le_refl _) o)) (fun _ _ h => h.elim)
theorem Moved.setCell {S : Nat → Prop} {a b : World} (h : Moved S a b) {p : Addr} (hp : p.block < a.heap.size → S p.block) (u : Value) : Moved S a (b.setCell p u) :=
  h.trans (T := fun i => i = p.block) ⟨rfl, rfl, rfl, by simp [World.setCell], fun i _ hs => Below.heap_setCell _ _ _ _ hs⟩ (fun i hi ht => by subst ht; exact hp hi)
theorem Moved.under {S : Nat → Prop} {a b : World} (h : Moved S a b) {B : Nat} (hB : B ≤ a.heap.size) (hS : ∀ i, S i → B ≤ i) : Below B a b := ⟨h.os, h.tape, h.output, h.size, fun i hi => h.block i (by omega) (fun hs => by have := hS i hs; omega)⟩
theorem Moved.wide {S T : Nat → Prop} {a b : World} (h : Moved S a b) (hs : ∀ i, i < a.heap.size → S i → T i) : Moved T a b := (Moved.refl T a).trans h hs
end Go.Proofs.Ytanhmebjfockjaa
