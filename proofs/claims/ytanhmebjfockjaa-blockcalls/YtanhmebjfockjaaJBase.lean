/-
  Plain words that all walks of this seat share: bytes as cells, a list of bytes that a call owns and lengthens, and the numbers behind them; nothing here speaks of the program.
-/
import Derived.WalkKit
import Derived.WalkSpells
import Derived.WalkLawsBesides
import Derived.Deep.AppendLies
import Derived.Test.YtanhmebjfockjaaMBase
namespace Go.Proofs.Ytanhmebjfockjaa
open Go.RowKit

/-- The cells of a list of bytes. -/
def bc (l : List UInt8) : List Value := l.map fun c => Value.int .u8 (c.toNat : Int)

theorem bc_length (l : List UInt8) : (bc l).length = l.length := by simp [bc]
theorem bc_append (l m : List UInt8) : bc (l ++ m) = bc l ++ bc m := by simp [bc]
theorem bc_one (l : List UInt8) : ∀ u ∈ bc l, u.oneCell' = true := by
  intro u hu
  simp only [bc, List.mem_map] at hu
  obtain ⟨c, _, rfl⟩ := hu
  rfl
theorem bc_get (l : List UInt8) (j : Nat) (h : j < l.length) : (bc l)[j]? = some (.int .u8 (l[j].toNat : Int)) := by simp [bc, h]

/-- w' has the bytes l under v', a list of the call's own from block 'base' on; of what was there in w only v's own row may have turned. -/
structure Ext (base : Nat) (w : World) (v : Value) (w' : World) (v' : Value) (l : List UInt8) : Prop where
  own : w'.ownsRow base 5 1 v' l.length (bc l)
  grown : w.grownBy w' v.ownBlock
  lies : v'.ownBlock = v.ownBlock ∨ ∃ g, v'.ownBlock = some g ∧ w.heap.size ≤ g

theorem Ext.start {base : Nat} {w : World} {v : Value} {l : List UInt8} (h : w.ownsRow base 5 1 v l.length (bc l)) : Ext base w v w v l := ⟨h, World.grownBy.refl _ _, .inl rfl⟩

theorem Ext.nil (base : Nat) (w : World) : Ext base w (.slice none 0 0) w (.slice none 0 0) [] := Ext.start (World.ownsRow_nil _ _ _ _)

theorem grownBy_undrew {a b : World} {r : Option Nat} (h : a.drew.grownBy b r) : a.grownBy b r := ⟨h.os, h.tape, h.output, h.size, h.block⟩

theorem Ext.trans {base : Nat} {a b c : World} {u v x : Value} {l m : List UInt8} (h : Ext base a u b v l) (k : Ext base b v c x m) : Ext base a u c x m := by
  refine ⟨k.own, grownBy_trans h.grown k.grown h.lies, ?_⟩
  rcases k.lies with e | ⟨g, e, hg⟩
  · rw [e]; exact h.lies
  · exact .inr ⟨g, e, Nat.le_trans h.grown.size hg⟩

theorem Ext.alloc {base : Nat} {a b : World} {u v : Value} {l : List UInt8} (h : Ext base a u b v l) (o : Obj) : Ext base a u (b.alloc o) v l :=
  ⟨h.own.alloc o, grownBy_trans h.grown (World.grownBy_alloc b o u.ownBlock) (.inl rfl), h.lies⟩

theorem Ext.drew {base : Nat} {a b : World} {u v : Value} {l : List UInt8} (h : Ext base a u b v l) : Ext base a u b.drew v l :=
  ⟨h.own.drew, ⟨h.grown.os, h.grown.tape, h.grown.output, h.grown.size, h.grown.block⟩, h.lies⟩

/-- What one append leaves. -/
theorem Ext.push {base : Nat} {a b c : World} {u v : Value} {l m : List UInt8} {o : Obj} {g cap n k : Nat} (h : Ext base a u b v l) (hm : k = m.length) (hn : n = l.length + k)
    (hown : c.ownsRow base 5 1 (.slice (some ⟨g, 0, none⟩) n cap) n (bc l ++ bc m)) (hg : (b.alloc o).grownBy c v.ownBlock) (hat : v.ownBlock = some g ∨ g = b.heap.size + 1) :
    Ext base a u c (.slice (some ⟨g, 0, none⟩) n cap) (l ++ m) := by
  subst hm; subst hn
  have k : Ext base b v c (.slice (some ⟨g, 0, none⟩) (l.length + m.length) cap) (l ++ m) := by
    refine ⟨by rw [bc_append, List.length_append]; exact hown, grownBy_trans (World.grownBy_alloc b o v.ownBlock) hg (.inl rfl), ?_⟩
    rcases hat with e | e
    · exact .inl (by rw [e]; rfl)
    · exact .inr ⟨g, rfl, by omega⟩
  exact h.trans k

/-- The same where the list that is appended lay there before. -/
theorem Ext.push0 {base : Nat} {a b c : World} {u v : Value} {l m : List UInt8} {g cap n k : Nat} (h : Ext base a u b v l) (hm : k = m.length) (hn : n = l.length + k)
    (hown : c.ownsRow base 5 1 (.slice (some ⟨g, 0, none⟩) n cap) n (bc l ++ bc m)) (hg : b.grownBy c v.ownBlock) (hat : v.ownBlock = some g ∨ g = b.heap.size) :
    Ext base a u c (.slice (some ⟨g, 0, none⟩) n cap) (l ++ m) := by
  subst hm; subst hn
  have k : Ext base b v c (.slice (some ⟨g, 0, none⟩) (l.length + m.length) cap) (l ++ m) := by
    refine ⟨by rw [bc_append, List.length_append]; exact hown, hg, ?_⟩
    rcases hat with e | e
    · exact .inl (by rw [e]; rfl)
    · exact .inr ⟨g, rfl, by omega⟩
  exact h.trans k

theorem Ext.size {base : Nat} {a b : World} {u v : Value} {l : List UInt8} (h : Ext base a u b v l) : a.heap.size ≤ b.heap.size := h.grown.size

/-- A block other than the row's own is as it was. -/
theorem Ext.far {base : Nat} {a b : World} {u v : Value} {l : List UInt8} (h : Ext base a u b v l) (p : Addr) (hlt : p.block < a.heap.size) (hne : some p.block ≠ u.ownBlock) : b.cell? p = a.cell? p :=
  h.grown.cell_far p hlt hne

theorem Ext.below {base : Nat} {a b : World} {u v : Value} {l : List UInt8} (h : Ext base a u b v l) (hb : base ≤ a.heap.size) (hu : ∀ k, u.ownBlock = some k → base ≤ k) : Below base a b :=
  (Below.refl _ _).grown h.grown hb hu

/-- A cell of a block that is no part of the row, behind one append. -/
theorem far_one {w1 W : World} {r : Option Nat} {p : Addr} {u : Value} (hg : W.grownBy w1 r) (h : W.cell? p = some u) (hne : some p.block ≠ r) : w1.cell? p = some u := hg.cell h hne

theorem Ext.keeps {base : Nat} {a b : World} {u v : Value} {l : List UInt8} (h : Ext base a u b v l) {p : Addr} {x : Value} (hc : a.cell? p = some x) (hne : some p.block ≠ u.ownBlock) : b.cell? p = some x := h.grown.cell hc hne

theorem ofNat_cell (n : Nat) : ((UInt8.ofNat n).toNat : Int) = (n : Int) % 256 := by simp [UInt8.toNat_ofNat']
theorem ofNat_cell_div (x p : Nat) : ((UInt8.ofNat (x / 2 ^ p)).toNat : Int) = (x : Int) / 2 ^ p % 256 := by
  rw [ofNat_cell]; simp

/-! ### Numbers, the highest byte first -/
/-- The k lowest bytes of x, the highest first. -/
def high (x k : Nat) : List UInt8 := (List.range k).map fun i => UInt8.ofNat (x / 2 ^ (8 * (k - 1 - i)))
theorem high_length (x k : Nat) : (high x k).length = k := by simp [high]
theorem high_get (x k i : Nat) (h : i < (high x k).length) : (high x k)[i] = UInt8.ofNat (x / 2 ^ (8 * (k - 1 - i))) := by simp [high]
theorem high_take_succ (x k i : Nat) (h : i < k) : (high x k).take (i + 1) = (high x k).take i ++ [UInt8.ofNat (x / 2 ^ (8 * (k - 1 - i)))] := by
  rw [List.take_succ_eq_append_getElem (by rw [high_length]; exact h), high_get]

end Go.Proofs.Ytanhmebjfockjaa
