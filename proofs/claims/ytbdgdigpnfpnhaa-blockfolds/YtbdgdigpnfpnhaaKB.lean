/-
  Plain words that all walks of this seat share: bytes as cells, a list of bytes that a call owns and lengthens, and the numbers behind them; nothing here speaks of the program. .. and what follows from it.
-/
import Derived.WalkKit
import Derived.WalkSpells
import Derived.WalkLawsBesides
import Derived.Deep.AppendLies
import Derived.Test.YtbdgdigpnfpnhaaKA
import Derived.Test.YtbdgdigpnfpnhaaProg
import Derived.Deep.RegionHeld3
import Derived.Deep.QuietTactic
import Derived.BigQuiet
import Derived.Laws.IdiomStrings
import Derived.Laws.CopyOwn
import Derived.Laws.MakeOwn
namespace Go.Proofs.Ytbdgdigpnfpnhaa.Q
open Go.RowKit

/-- The cells of a list of bytes. -/
def bc (l : List UInt8) : List Value := l.map fun c => Value.int .u8 (c.toNat : Int)

theorem bc_length (l : List UInt8) : (bc l).length = l.length := by simp [bc]
theorem bc_append (l m : List UInt8) : bc (l ++ m) = bc l ++ bc m := by simp [bc]
theorem bc_one (l : List UInt8) : ∀ u ∈ bc l, u.oneCell' = true := by
  intro u hu
  simp only [bc, List.mem_map] at hu
  obtain ⟨c, _, rfl⟩ := hu
  rfl
theorem bc_get (l : List UInt8) (j : Nat) (h : j < l.length) : (bc l)[j]? = some (.int .u8 (l[j].toNat : Int)) := by simp [bc, h]

/-- w' has the bytes l under v', a list of the call's own from block 'base' on; of what was there in w only v's own row may have turned. -/
structure Ext (base : Nat) (w : World) (v : Value) (w' : World) (v' : Value) (l : List UInt8) : Prop where
  own : w'.ownsRow base 5 1 v' l.length (bc l)
  grown : w.grownBy w' v.ownBlock
  lies : v'.ownBlock = v.ownBlock ∨ ∃ g, v'.ownBlock = some g ∧ w.heap.size ≤ g

theorem Ext.start {base : Nat} {w : World} {v : Value} {l : List UInt8} (h : w.ownsRow base 5 1 v l.length (bc l)) : Ext base w v w v l := ⟨h, World.grownBy.refl _ _, .inl rfl⟩

theorem Ext.nil (base : Nat) (w : World) : Ext base w (.slice none 0 0) w (.slice none 0 0) [] := Ext.start (World.ownsRow_nil _ _ _ _)

theorem grownBy_undrew {a b : World} {r : Option Nat} (h : a.drew.grownBy b r) : a.grownBy b r := ⟨h.os, h.tape, h.output, h.size, h.block⟩

theorem Ext.trans {base : Nat} {a b c : World} {u v x : Value} {l m : List UInt8} (h : Ext base a u b v l) (k : Ext base b v c x m) : Ext base a u c x m := by
  refine ⟨k.own, grownBy_trans h.grown k.grown h.lies, ?_⟩
  rcases k.lies with e | ⟨g, e, hg⟩
  · rw [e]; exact h.lies
  · exact .inr ⟨g, e, Nat.le_trans h.grown.size hg⟩

theorem Ext.alloc {base : Nat} {a b : World} {u v : Value} {l : List UInt8} (h : Ext base a u b v l) (o : Obj) : Ext base a u (b.alloc o) v l :=
  ⟨h.own.alloc o, grownBy_trans h.grown (World.grownBy_alloc b o u.ownBlock) (.inl rfl), h.lies⟩

theorem Ext.drew {base : Nat} {a b : World} {u v : Value} {l : List UInt8} (h : Ext base a u b v l) : Ext base a u b.drew v l :=
  ⟨h.own.drew, ⟨h.grown.os, h.grown.tape, h.grown.output, h.grown.size, h.grown.block⟩, h.lies⟩

/-- What one append leaves. -/
theorem Ext.push {base : Nat} {a b c : World} {u v : Value} {l m : List UInt8} {o : Obj} {g cap n k : Nat} (h : Ext base a u b v l) (hm : k = m.length) (hn : n = l.length + k)
    (hown : c.ownsRow base 5 1 (.slice (some ⟨g, 0, none⟩) n cap) n (bc l ++ bc m)) (hg : (b.alloc o).grownBy c v.ownBlock) (hat : v.ownBlock = some g ∨ g = b.heap.size + 1) :
    Ext base a u c (.slice (some ⟨g, 0, none⟩) n cap) (l ++ m) := by
  subst hm; subst hn
  have k : Ext base b v c (.slice (some ⟨g, 0, none⟩) (l.length + m.length) cap) (l ++ m) := by
    refine ⟨by rw [bc_append, List.length_append]; exact hown, grownBy_trans (World.grownBy_alloc b o v.ownBlock) hg (.inl rfl), ?_⟩
    rcases hat with e | e
    · exact .inl (by rw [e]; rfl)
    · exact .inr ⟨g, rfl, by omega⟩
  exact h.trans k

/-- The same where the list that is appended lay there before. -/
theorem Ext.push0 {base : Nat} {a b c : World} {u v : Value} {l m : List UInt8} {g cap n k : Nat} (h : Ext base a u b v l) (hm : k = m.length) (hn : n = l.length + k)
    (hown : c.ownsRow base 5 1 (.slice (some ⟨g, 0, none⟩) n cap) n (bc l ++ bc m)) (hg : b.grownBy c v.ownBlock) (hat : v.ownBlock = some g ∨ g = b.heap.size) :
    Ext base a u c (.slice (some ⟨g, 0, none⟩) n cap) (l ++ m) := by
  subst hm; subst hn
  have k : Ext base b v c (.slice (some ⟨g, 0, none⟩) (l.length + m.length) cap) (l ++ m) := by
    refine ⟨by rw [bc_append, List.length_append]; exact hown, hg, ?_⟩
    rcases hat with e | e
    · exact .inl (by rw [e]; rfl)
    · exact .inr ⟨g, rfl, by omega⟩
  exact h.trans k

theorem Ext.size {base : Nat} {a b : World} {u v : Value} {l : List UInt8} (h : Ext base a u b v l) : a.heap.size ≤ b.heap.size := h.grown.size

/-- A block other than the row's own is as it was. -/
theorem Ext.far {base : Nat} {a b : World} {u v : Value} {l : List UInt8} (h : Ext base a u b v l) (p : Addr) (hlt : p.block < a.heap.size) (hne : some p.block ≠ u.ownBlock) : b.cell? p = a.cell? p :=
  h.grown.cell_far p hlt hne

theorem Ext.below {base : Nat} {a b : World} {u v : Value} {l : List UInt8} (h : Ext base a u b v l) (hb : base ≤ a.heap.size) (hu : ∀ k, u.ownBlock = some k → base ≤ k) : Below base a b :=
  (Below.refl _ _).grown h.grown hb hu

/-- A cell of a block that is no part of the row, behind one append. -/
theorem far_one {w1 W : World} {r : Option Nat} {p : Addr} {u : Value} (hg : W.grownBy w1 r) (h : W.cell? p = some u) (hne : some p.block ≠ r) : w1.cell? p = some u := hg.cell h hne

theorem Ext.keeps {base : Nat} {a b : World} {u v : Value} {l : List UInt8} (h : Ext base a u b v l) {p : Addr} {x : Value} (hc : a.cell? p = some x) (hne : some p.block ≠ u.ownBlock) : b.cell? p = some x := h.grown.cell hc hne

theorem ofNat_cell (n : Nat) : ((UInt8.ofNat n).toNat : Int) = (n : Int) % 256 := by simp [UInt8.toNat_ofNat']
theorem ofNat_cell_div (x p : Nat) : ((UInt8.ofNat (x / 2 ^ p)).toNat : Int) = (x : Int) / 2 ^ p % 256 := by
  rw [ofNat_cell]; simp

/-! ### Numbers, the highest byte first -/
/-- The k lowest bytes of x, the highest first. -/
def high (x k : Nat) : List UInt8 := (List.range k).map fun i => UInt8.ofNat (x / 2 ^ (8 * (k - 1 - i)))
theorem high_length (x k : Nat) : (high x k).length = k := by simp [high]
theorem high_get (x k i : Nat) (h : i < (high x k).length) : (high x k)[i] = UInt8.ofNat (x / 2 ^ (8 * (k - 1 - i))) := by simp [high]
theorem high_take_succ (x k i : Nat) (h : i < k) : (high x k).take (i + 1) = (high x k).take i ++ [UInt8.ofNat (x / 2 ^ (8 * (k - 1 - i)))] := by
  rw [List.take_succ_eq_append_getElem (by rw [high_length]; exact h), high_get]

end Go.Proofs.Ytbdgdigpnfpnhaa.Q
namespace Go.Proofs.Ytbdgdigpnfpnhaa.Q
open Go.RowKit

theorem Try.info5 : (Try.prog.info? 5).map (fun i => (i.zero, i.size, i.bytes)) = some (some (.int .u8 0), 1, 1) := by kernel_rfl

/-- Where the bytes of a slice lie. -/
def BytesAt (w : World) (b off : Nat) (l : List UInt8) : Prop := ∀ j (h : j < l.length), w.cell? ⟨b, off + j, none⟩ = some (.int .u8 ((l[j]).toNat : Int))

structure BytesIn (w : World) (v : Value) (l : List UInt8) : Prop where
  form : ∃ a cap, v = .slice a l.length cap ∧ (l ≠ [] → ∃ b off, a = some ⟨b, off, none⟩ ∧ BytesAt w b off l)
  len : l.length ≤ 140737488355328

theorem BytesAt.later {w w' : World} {b off : Nat} {l : List UInt8} (h : BytesAt w b off l) (hb : Below w.heap.size w w') : BytesAt w' b off l := fun j hj =>
  (hb.cell (p := ⟨b, off + j, none⟩) (World.block_lt_of_cell? w _ (h j hj))).trans (h j hj)
theorem BytesIn.later {w w' : World} {v : Value} {l : List UInt8} (h : BytesIn w v l) (hb : Below w.heap.size w w') : BytesIn w' v l := by
  obtain ⟨⟨a, cap, hv, hf⟩, hlen⟩ := h
  exact ⟨⟨a, cap, hv, fun h0 => by obtain ⟨b, off, ha, hat⟩ := hf h0; exact ⟨b, off, ha, hat.later hb⟩⟩, hlen⟩
/-- Bytes in a block that is known whole. -/
theorem BytesIn.block {w : World} {B : Nat} {cs : Array Value} {t : TypeId} {fr : Nat × Nat} (hb : w.heap[B]? = some (.cells cs t fr)) (l : List UInt8) (hl : l.length ≤ 140737488355328) (hc : ∀ j (h : j < l.length), cs[j]? = some (.int .u8 ((l[j]).toNat : Int))) (cap n : Nat) (hn : n = l.length) :
    BytesIn w (.slice (some ⟨B, 0, none⟩) n cap) l := by
  subst hn
  refine ⟨⟨_, cap, rfl, fun _ => ⟨B, 0, rfl, fun j hj => ?_⟩⟩, hl⟩
  rw [cell_of_row w B (0 + j) cs t fr hb, Nat.zero_add]
  exact hc j hj

/-- A text made of bytes that the call owns. -/
theorem Ext.str {base : Nat} {a b : World} {u v : Value} {l : List UInt8} (h : Ext base a u b v l) : (convert 89 9 v).run Try.prog b = .ok (.string ⟨l.toArray⟩) b := by
  rcases h.own.2 with ⟨rfl, h0⟩ | ⟨g, cap, cur, hv, _⟩
  · have : l = [] := List.eq_nil_of_length_eq_zero h0
    subst this
    exact run_convert_bytes_nil b 89 5 Try.underlying89 Try.underlying5 0 0 _ Try.underlying9
  · have ho := h.own
    subst hv
    refine run_convert_bytes_back b 89 9 5 ⟨g, 0, none⟩ cap l Try.underlying89 Try.underlying5 Try.underlying9 ?_
    intro j hj
    have hadd : (⟨g, 0, none⟩ : Addr).add j = ⟨g, j, none⟩ := by unfold Addr.add; split <;> simp_all
    rw [hadd, ho.cellAt j (by omega), bc_get l j hj]

theorem Ext.shape {base : Nat} {a b : World} {u v : Value} {l : List UInt8} (h : Ext base a u b v l) : ∃ ad cap, v = .slice ad l.length cap := by
  rcases h.own.2 with ⟨rfl, h0⟩ | ⟨g, cap, cur, rfl, _⟩
  · exact ⟨none, 0, by rw [h0]⟩
  · exact ⟨_, cap, rfl⟩

theorem Ext.kept_own {base base2 : Nat} {a b c : World} {u v y : Value} {l m : List UInt8} (h : Ext base a u b v l) (k : Ext base2 b (.slice none 0 0) c y m) : c.ownsRow base 5 1 v l.length (bc l) :=
  h.own.kept k.grown (by cases v.ownBlock with | none => exact .inl rfl | some g => exact .inr (by simp [Value.ownBlock]))

theorem Ext.lit0 (base : Nat) (w : World) (cs : Array Value) (l : List UInt8) (n : Nat) (hb : base ≤ w.heap.size) (hcs : cs.toList = bc l) (hn : n = l.length) (hm : n ≤ maxLen) :
    Ext base w (.slice none 0 0) (w.alloc (.cells cs 5)) (.slice (some ⟨w.heap.size, 0, none⟩) n n) l := by
  subst hn
  have hz : cs.size = l.length * 1 := by rw [← Array.length_toList, hcs, bc_length]; omega
  have h := World.ownsRow_lit (size := 1) (e := 5) (base := base) w cs l.length hb hm hz
  rw [hcs] at h
  exact ⟨h, World.grownBy_alloc w _ _, .inr ⟨w.heap.size, rfl, Nat.le_refl _⟩⟩

/-- The block of the call's own parameter is new memory, too. -/
theorem Ext.unalloc {base : Nat} {w w' : World} {o : Obj} {v : Value} {l : List UInt8} (h : Ext base (w.alloc o) (.slice none 0 0) w' v l) : Ext base w (.slice none 0 0) w' v l := by
  refine ⟨h.own, grownBy_trans (World.grownBy_alloc w o _) h.grown (.inl rfl), ?_⟩
  rcases h.lies with e | ⟨g, e, hg⟩
  · exact .inl e
  · exact .inr ⟨g, e, by simp at hg; omega⟩

theorem Ext.lit (w : World) (o : Obj) (cs : Array Value) (l : List UInt8) (n : Nat) (hcs : cs.toList = bc l) (hn : n = l.length) (hm : n ≤ maxLen) :
    Ext w.heap.size w (.slice none 0 0) ((w.alloc o).alloc (.cells cs 5)) (.slice (some ⟨w.heap.size + 1, 0, none⟩) n n) l := by
  have h := (Ext.lit0 w.heap.size (w.alloc o) cs l n (by simp) hcs hn hm).unalloc
  rwa [World.size_alloc] at h

/-- Bytes put behind bytes that the call owns. -/
theorem wpList_append_bytes (w : World) {ops : Array Oper} {rest : List Oper} {o : Oper} {a : Act} {Q : Exit → Act → World → Prop} (hg : o.guard = none) (s x : Operand)
    (hop : o.op = .call { callee := .builtin .append, args := #[s, x], argTypes := #[89, 89] })
    (base : Nat) (v : Value) (l m : List UInt8) (hs : a.eval s = v) (hown : w.ownsRow base 5 1 v l.length (bc l))
    (ad : Addr) (k c : Nat) (hx : a.eval x = .slice (some ad) k c) (hk : k = m.length) (hc : ∀ j u, (bc m)[j]? = some u → w.cell? (ad.add j) = some u) (hm : 0 < m.length)
    (hroom : l.length + m.length ≤ 140737488355328) (hbase : base ≤ w.heap.size)
    (h : ∀ g cap L w', Hid (L = (l ++ m).length) → Ext base w v w' (.slice (some ⟨g, 0, none⟩) L cap) (l ++ m) → g < w'.heap.size → wpList Try.prog ops Q rest (a.put o.dst (.slice (some ⟨g, 0, none⟩) L cap)) w') :
    wpList Try.prog ops Q (o :: rest) a w := by
  subst hk
  obtain ⟨i0, hi, hz0, hz1, hz2⟩ := info_parts Try.info5
  refine wpList_append_lies w hg s x 89 hop base 5 i0 (.int .u8 0) 1 1 Try.underlying89 hi hz0 hz1 hz2 rfl (by decide) v l.length (bc l) hs hown ad m.length c (bc m) hx (by rw [bc_length]; omega) hc (bc_one m) hm (by unfold maxLen; omega) (by omega) hbase _ rfl ?_
  intro g cap w' h1 h2 h3 h4
  have he : (l ++ m).length = l.length + m.length := List.length_append
  refine h g cap (l.length + m.length) w' he.symm ⟨by rw [he, bc_append]; exact h1, h2, ?_⟩ h4
  rcases h3 with h3 | h3
  · exact .inl h3.symm
  · exact .inr ⟨g, rfl, by omega⟩

/-- The bytes of a list that the call owns, where it lies. -/
theorem own_cells {w : World} {base g n cap : Nat} {m : List UInt8} (h : w.ownsRow base 5 1 (.slice (some ⟨g, 0, none⟩) n cap) n (bc m)) : ∀ j u, (bc m)[j]? = some u → w.cell? ((⟨g, 0, none⟩ : Addr).add j) = some u := by
  intro j u hu
  have hadd : (⟨g, 0, none⟩ : Addr).add j = ⟨g, j, none⟩ := by unfold Addr.add; split <;> simp_all
  have hj : j < n := by
    have := h.1
    rcases Nat.lt_or_ge j n with h | h
    · exact h
    · rw [List.getElem?_eq_none (by omega)] at hu; cases hu
  rw [hadd, h.cellAt j (by omega), hu]

theorem Ext.beside {base base2 : Nat} {a b c : World} {u v y : Value} {l m : List UInt8} (h : Ext base a u b v l) (k : Ext base2 b (.slice none 0 0) c y m) : Ext base a u c v l :=
  ⟨h.kept_own k, ⟨k.grown.os.trans h.grown.os, k.grown.tape.trans h.grown.tape, k.grown.output.trans h.grown.output, Nat.le_trans h.grown.size k.grown.size, fun i hi hne => (k.grown.block i (Nat.lt_of_lt_of_le hi h.grown.size) (by simp [Value.ownBlock])).trans (h.grown.block i hi hne)⟩, h.lies⟩

theorem Ext.some {base : Nat} {a b : World} {u v : Value} {l : List UInt8} (h : Ext base a u b v l) (hl : l ≠ []) : ∃ g cap, v = .slice (some ⟨g, 0, none⟩) l.length cap := by
  rcases h.own.2 with ⟨_, h0⟩ | ⟨g, cap, cur, rfl, _⟩
  · exact absurd (List.eq_nil_of_length_eq_zero h0) hl
  · exact ⟨g, cap, rfl⟩

theorem BytesIn.cells {w : World} {a : Option Addr} {l : List UInt8} (h : l ≠ [] → ∃ b off, a = some ⟨b, off, none⟩ ∧ BytesAt w b off l) :
    ∀ ad, a = some ad → ∀ j u, (bc l)[j]? = some u → w.cell? (ad.add j) = some u := by
  intro ad ha j u hu
  have hj : j < l.length := by
    rcases Nat.lt_or_ge j l.length with h | h
    · exact h
    · rw [List.getElem?_eq_none (by rw [bc_length]; exact h)] at hu; cases hu
  obtain ⟨b, off, hb, hat⟩ := h (by intro e; rw [e] at hj; simp at hj)
  rw [ha] at hb
  have : ad = ⟨b, off, none⟩ := Option.some.inj hb
  subst this
  have hadd : (⟨b, off, none⟩ : Addr).add j = ⟨b, off + j, none⟩ := by unfold Addr.add; split <;> simp_all
  rw [hadd, hat j hj]
  rw [bc_get l j hj] at hu
  exact hu

theorem bytes_nil_ok {w : World} {a : Option Addr} {c : Nat} {l : List UInt8} (h : BytesIn w (.slice a l.length c) l) : a = none → l = [] := by
  intro e
  obtain ⟨⟨a', cap', e', hf⟩, _⟩ := h
  simp only [Value.slice.injEq, true_and] at e'
  obtain ⟨rfl, rfl⟩ := e'
  by_cases h0 : l = []
  · exact h0
  · obtain ⟨b, off, hb, _⟩ := hf h0; rw [e] at hb; cases hb

/-- Bytes that came in put behind a new list: none of them, too. -/
theorem wpList_copy_bytes (w : World) {ops : Array Oper} {rest : List Oper} {o : Oper} {a : Act} {Q : Exit → Act → World → Prop} (hg : o.guard = none) (s x : Operand)
    (hop : o.op = .call { callee := .builtin .append, args := #[s, x], argTypes := #[89, 89] })
    (base g : Nat) (m : List UInt8) (k c : Nat) (hk : k = m.length) (hs : a.eval s = .slice (some ⟨g, 0, none⟩) 0 0) (hown : w.ownsRow base 5 1 (.slice (some ⟨g, 0, none⟩) 0 0) 0 (bc []))
    (ao : Option Addr) (hx : a.eval x = .slice ao k c) (hin : BytesIn w (.slice ao k c) m) (hnone : ao = none → c = 0) (hroom : m.length ≤ 140737488355328) (hbase : base ≤ w.heap.size)
    (h : ∀ g' cap' L w', Hid (L = m.length) → Ext base w (.slice (some ⟨g, 0, none⟩) 0 0) w' (.slice (some ⟨g', 0, none⟩) L cap') m → wpList Try.prog ops Q rest (a.put o.dst (.slice (some ⟨g', 0, none⟩) L cap')) w') :
    wpList Try.prog ops Q (o :: rest) a w := by
  subst hk
  obtain ⟨i0, hi, hz0, hz1, hz2⟩ := info_parts Try.info5
  have hno := bytes_nil_ok hin
  obtain ⟨⟨a', cap', e, hf⟩, hlen⟩ := hin
  simp only [Value.slice.injEq, true_and] at e
  obtain ⟨rfl, rfl⟩ := e
  by_cases hm : m = []
  · subst hm
    refine wpList_append_fits_any w hg s x 89 hop base 5 i0 1 Try.underlying89 hi hz1 g 0 0 (bc []) hs hown ao 0 c [] hx rfl (fun h0 => ⟨rfl, hnone h0⟩) (fun ad _ j u hj => by simp at hj) (by simp) (Nat.le_refl _) ?_
    intro w' h1 h2
    exact h g 0 0 w' rfl ⟨h1, h2, .inl rfl⟩
  · obtain ⟨b, off, rfl, hat⟩ := hf hm
    refine wpList_append_bytes w hg s x hop base _ [] m hs hown ⟨b, off, none⟩ m.length c hx rfl (BytesIn.cells (fun _ => ⟨b, off, rfl, hat⟩) _ rfl) (List.length_pos_iff.mpr hm) (by simpa using hroom) hbase ?_
    intro g' cap' L w' hL hx' _
    exact h g' cap' L w' (by have := hL.out; rw [List.nil_append] at this; exact this) (by simpa using hx')
theorem bytes_of_own {w : World} {base : Nat} {v : Value} {l : List UInt8} (h : w.ownsRow base 5 1 v l.length (bc l)) (hl : l.length ≤ 140737488355328) : BytesIn w v l := by
  rcases h.2 with ⟨rfl, h0⟩ | ⟨g, cap, cur, rfl, _⟩
  · exact ⟨⟨none, 0, by rw [h0], fun hne => absurd (List.eq_nil_of_length_eq_zero h0) hne⟩, hl⟩
  · refine ⟨⟨_, cap, rfl, fun _ => ⟨g, 0, rfl, fun j hj => ?_⟩⟩, hl⟩
    rw [Nat.zero_add, h.cellAt j (by omega), bc_get l j hj]

/-- The first part of a list that lies in a block of its own. -/
theorem own_shrink {w : World} {base g k n cap : Nat} {xs ys : List UInt8} (h : w.ownsRow base 5 1 (.slice (some ⟨g, 0, none⟩) k cap) k (bc (xs ++ ys))) (hn : n = xs.length) (hk : n ≤ k) : w.ownsRow base 5 1 (.slice (some ⟨g, 0, none⟩) n cap) n (bc xs) := by
  subst hn
  refine ⟨by rw [bc_length]; omega, .inr ?_⟩
  rcases h.2 with ⟨h', _⟩ | ⟨g', cap', cur, h', hb, hg, hnc, hcm, hcs, htake⟩
  · cases h'
  · simp only [Value.slice.injEq, Option.some.injEq, Addr.mk.injEq, and_true, true_and] at h'
    obtain ⟨rfl, rfl⟩ := h'
    refine ⟨g, cap, cur, rfl, hb, hg, by omega, hcm, hcs, ?_⟩
    have := congrArg (List.take (xs.length * 1)) htake
    rw [List.take_take, Nat.min_eq_left (by omega)] at this
    rw [this, bc_append, Nat.mul_one, List.take_left' (bc_length xs)]

theorem none_kept (v : Value) : v.ownBlock = none ∨ v.ownBlock ≠ none := by cases v.ownBlock with | none => exact .inl rfl | some _ => exact .inr (by simp)

theorem own_later {w w' : World} {base n : Nat} {v : Value} {xs : List Value} (h : w.ownsRow base 5 1 v n xs) (hb : Below w.heap.size w w') : w'.ownsRow base 5 1 v n xs :=
  h.kept (w' := w') (row := none) ⟨hb.os, hb.tape, hb.output, hb.size, fun k hk _ => hb.block k hk⟩ (none_kept _)

theorem own_base {w : World} {base base' : Nat} {v : Value} {n : Nat} {xs : List Value} (h : w.ownsRow base 5 1 v n xs) (hb : base' ≤ base) : w.ownsRow base' 5 1 v n xs := by
  refine ⟨h.1, ?_⟩
  rcases h.2 with h' | ⟨g, cap, cur, e, h1, h2⟩
  · exact .inl h'
  · exact .inr ⟨g, cap, cur, e, Nat.le_trans hb h1, h2⟩

theorem own_cap {w : World} {base g n cap : Nat} {xs : List Value} (h : w.ownsRow base 5 1 (.slice (some ⟨g, 0, none⟩) n cap) n xs) : n ≤ cap ∧ g < w.heap.size ∧ base ≤ g := by
  have h1 := h.lt g rfl
  rcases h.2 with ⟨e, _⟩ | ⟨g', cap', cur, e, hb', _, hnc, _⟩
  · cases e
  · simp only [Value.slice.injEq, Option.some.injEq, Addr.mk.injEq, and_true, true_and] at e
    exact ⟨by omega, h1.2, h1.1⟩

end Go.Proofs.Ytbdgdigpnfpnhaa.Q
namespace Go.Proofs.Ytbdgdigpnfpnhaa.Q
open Go.RowKit

def zeros (n : Nat) : Array Value := (List.replicate n (Value.int .u8 0)).toArray
theorem zeros_made (n : Nat) : madeCells #[Value.int .u8 0] n = zeros n := by
  apply Array.ext'
  rw [toList_madeCells_one]
  simp [zeros]
theorem bc_zeros (n : Nat) : bc (List.replicate n 0) = List.replicate n (Value.int .u8 0) := by
  unfold bc
  rw [List.map_replicate]
  rfl

theorem make_bytes (n : Nat) (hn : n ≤ 140737488355328) (z : Int) (hz : z = (n : Int)) (u : World) : (Instr.makeSlice 89 (.int .i64 z) (.int .i64 z)).run Try.prog u =
    .ok (.slice (some ⟨u.heap.size, 0, none⟩) n n) (u.alloc (.cells (zeros n) 5)) := by
  subst hz
  obtain ⟨i0, hi, hz0, hz1, hz2⟩ := info_parts Try.info5
  have h := run_make (P := Try.prog) u 89 5 i0 (.int .u8 0) Try.underlying89 hi hz0 .i64 .i64 (n : Int) (n : Int) (by omega) (Int.le_refl _) (by rw [hz2]; omega) (by omega)
  rw [hz1, Int.toNat_natCast, Nat.mul_one] at h
  rw [← zeros_made]
  exact h

theorem take_zeros (l : List UInt8) (n k : Nat) (hk : k = l.length) : splice (List.replicate n (Value.int .u8 0)) 0 (bc (l.take n)) = bc (l.take n ++ List.replicate (n - k) 0) := by
  subst hk
  unfold splice
  rw [bc_append, bc_zeros, bc_length, List.length_take, List.drop_replicate, List.take_zero, List.nil_append]
  congr 2
  omega

/-- Bytes that came in copied over a new list. -/
theorem wpList_copy_in (w : World) {ops : Array Oper} {rest : List Oper} {o : Oper} {a : Act} {Q : Exit → Act → World → Prop} (hg : o.guard = none) (d s : Operand)
    (hop : o.op = .call { callee := .builtin .copy, args := #[d, s], argTypes := #[89, 89] })
    (w0 : World) (n k c : Nat) (l m : List UInt8) (hw : w = w0.alloc (.cells (zeros n) 5)) (hd : a.eval d = .slice (some ⟨w0.heap.size, 0, none⟩) n n) (ao : Option Addr) (hs : a.eval s = .slice ao k c)
    (hk : k = l.length) (hin : BytesIn w0 (.slice ao k c) l) (hm : m = l.take n ++ List.replicate (n - k) 0) (hn : n ≤ 140737488355328)
    (h : ∀ w' r, w'.ownsRow w0.heap.size 5 1 (.slice (some ⟨w0.heap.size, 0, none⟩) n n) n (bc m) → w0.grownBy w' none → wpList Try.prog ops Q rest (a.put o.dst r) w') :
    wpList Try.prog ops Q (o :: rest) a w := by
  subst hw
  obtain ⟨i0, hi, hz0, hz1, hz2⟩ := info_parts Try.info5
  have hml : m.length = n := by rw [hm, List.length_append, List.length_take, List.length_replicate]; omega
  obtain ⟨⟨a', cap', e, hf⟩, hlen⟩ := hin
  simp only [Value.slice.injEq] at e
  obtain ⟨rfl, e2, rfl⟩ := e
  refine wpList_copy_splice hg d s 89 89 hop 5 Try.underlying89 (by rw [hi]; simp [hz1]) _ _ n n k c hd hs w0.heap.size 0 (List.replicate n (.int .u8 0)) 5 (heap_alloc_new w0 _) (bc (l.take n)) ?_ ?_ ?_ (bc_one _) w0.heap.size w0 ((Below.refl _ _).alloc (Nat.le_refl _) _) (Nat.le_refl _) ?_
  · rw [bc_length, List.length_take, hk, Nat.min_comm]
  · intro h0
    refine ⟨rfl, ?_⟩
    rw [bc_length, List.length_take] at h0
    obtain ⟨b, off, rfl, hat⟩ := hf (by intro e; rw [e] at h0; simp at h0)
    refine ⟨_, rfl, ?_⟩
    have hat' := hat.later (w' := w0.alloc (.cells (zeros n) 5)) ((Below.refl _ _).alloc (Nat.le_refl _) _)
    intro j v hv
    refine BytesIn.cells (l := l) (fun _ => ⟨b, off, rfl, hat'⟩) _ rfl j v ?_
    unfold bc at hv ⊢
    rw [List.map_take, List.getElem?_take] at hv
    split at hv
    · exact hv
    · cases hv
  · rw [bc_length, List.length_take, List.length_replicate]; omega
  · intro w' HG hB
    have HG' := HG.out
    rw [take_zeros l n k hk, ← hm] at HG'
    refine h w' _ ⟨by rw [bc_length, hml]; omega, .inr ⟨w0.heap.size, n, _, rfl, Nat.le_refl _, HG', Nat.le_refl _, by unfold maxLen; omega, ?_, ?_⟩⟩ ⟨hB.os, hB.tape, hB.output, hB.size, fun i hi _ => hB.block i hi⟩
    · simp [bc_length, hml]
    · simp only [Nat.mul_one]
      rw [List.take_of_length_le (by rw [bc_length, hml]; omega)]

theorem ext_of_own {w w' : World} {n : Nat} {m : List UInt8} (h : w'.ownsRow w.heap.size 5 1 (.slice (some ⟨w.heap.size, 0, none⟩) n n) n (bc m)) (hn : n = m.length) (hg : w.grownBy w' none) :
    Ext w.heap.size w (.slice none 0 0) w' (.slice (some ⟨w.heap.size, 0, none⟩) n n) m := ⟨by rw [← hn]; exact h, hg, .inr ⟨_, rfl, Nat.le_refl _⟩⟩
theorem ext_nil {base : Nat} {w w' : World} (h : w.grownBy w' none) : Ext base w (.slice none 0 0) w' (.slice none 0 0) [] := ⟨World.ownsRow_nil _ _ _ _, h, .inl rfl⟩

theorem BytesIn.cut {w : World} {a0 : Option Addr} {k c0 : Nat} {l : List UInt8} (h : BytesIn w (.slice a0 k c0) l) (n : Nat) (hn : n ≤ l.length) (c : Nat) : BytesIn w (.slice a0 n c) (l.take n) := by
  obtain ⟨⟨a, c', e, hf⟩, hlen⟩ := h
  simp only [Value.slice.injEq] at e
  obtain ⟨rfl, rfl, rfl⟩ := e
  have hl : (l.take n).length = n := by rw [List.length_take]; omega
  refine ⟨⟨a0, c, by rw [hl], fun h0 => ?_⟩, by omega⟩
  obtain ⟨b, off, rfl, hat⟩ := hf (by intro e; rw [e] at h0; simp at h0)
  refine ⟨b, off, rfl, fun j hj => ?_⟩
  rw [hl] at hj
  have := hat j (by omega)
  rw [this, List.getElem_take]

theorem BytesIn.spot {w : World} {a0 : Option Addr} {c0 : Nat} {l : List UInt8} (h : BytesIn w (.slice a0 l.length c0) l) (j : Nat) (hj : j < l.length) : ∃ b off, a0 = some ⟨b, off, none⟩ ∧ w.cell? ⟨b, off + j, none⟩ = some (.int .u8 ((l[j]).toNat : Int)) := by
  obtain ⟨⟨a, c', e, hf⟩, hlen⟩ := h
  simp only [Value.slice.injEq, true_and] at e
  obtain ⟨rfl, rfl⟩ := e
  obtain ⟨b, off, rfl, hat⟩ := hf (by intro e; rw [e] at hj; simp at hj)
  exact ⟨b, off, rfl, hat j hj⟩

theorem below_of {w w' : World} (h : w.grownBy w' none) : Below w.heap.size w w' := ⟨h.os, h.tape, h.output, h.size, fun i hi => h.block i hi (by simp)⟩
end Go.Proofs.Ytbdgdigpnfpnhaa.Q
namespace Go.Proofs.Ytbdgdigpnfpnhaa.Q
open Go.RowKit

theorem wpList_app_bytes (w : World) {ops : Array Oper} {rest : List Oper} {o : Oper} {a : Act} {Q : Exit → Act → World → Prop} (hg : o.guard = none) (s x : Operand)
    (hop : o.op = .call { callee := .builtin .append, args := #[s, x], argTypes := #[89, 89] })
    (base g cap : Nat) (l m : List UInt8) (n k c : Nat) (hn : n = l.length) (hk : k = m.length) (hs : a.eval s = .slice (some ⟨g, 0, none⟩) n cap) (hown : w.ownsRow base 5 1 (.slice (some ⟨g, 0, none⟩) n cap) n (bc l))
    (ao : Option Addr) (hx : a.eval x = .slice ao k c) (hin : BytesIn w (.slice ao k c) m) (hnone : ao = none → c = 0) (hroom : l.length + m.length ≤ 140737488355328) (hbase : base ≤ w.heap.size)
    (h : ∀ g' cap' L w', Hid (L = (l ++ m).length) → Ext base w (.slice (some ⟨g, 0, none⟩) n cap) w' (.slice (some ⟨g', 0, none⟩) L cap') (l ++ m) → wpList Try.prog ops Q rest (a.put o.dst (.slice (some ⟨g', 0, none⟩) L cap')) w') :
    wpList Try.prog ops Q (o :: rest) a w := by
  subst hk hn
  obtain ⟨i0, hi, hz0, hz1, hz2⟩ := info_parts Try.info5
  have hcap := own_cap hown
  have hno := bytes_nil_ok hin
  obtain ⟨⟨a', cap', e, hf⟩, hlen⟩ := hin
  simp only [Value.slice.injEq, true_and] at e
  obtain ⟨rfl, rfl⟩ := e
  by_cases hm : m = []
  · subst hm
    refine wpList_append_fits_any w hg s x 89 hop base 5 i0 1 Try.underlying89 hi hz1 g l.length cap (bc l) hs hown ao 0 c [] hx rfl (fun h0 => ⟨rfl, hnone h0⟩) (fun ad _ j u hj => by simp at hj) (by simp) (by omega) ?_
    intro w' h1 h2
    refine h g cap l.length w' (by simp [Hid]) ⟨?_, h2, .inl rfl⟩
    rw [List.append_nil] at h1 ⊢
    exact h1
  · obtain ⟨b, off, rfl, hat⟩ := hf hm
    refine wpList_append_bytes w hg s x hop base _ l m hs hown ⟨b, off, none⟩ m.length c hx rfl (BytesIn.cells (fun _ => ⟨b, off, rfl, hat⟩) _ rfl) (List.length_pos_iff.mpr hm) hroom hbase ?_
    intro g' cap' L w' hL hx' _
    exact h g' cap' L w' hL hx'

/-- No bytes, with room for some. -/
theorem make_room (n : Nat) (hn : n ≤ 140737488355328) (z : Int) (hz : z = (n : Int)) (u : World) : (Instr.makeSlice 89 (.int .i64 0) (.int .i64 z)).run Try.prog u =
    .ok (.slice (some ⟨u.heap.size, 0, none⟩) 0 n) (u.alloc (.cells (zeros n) 5)) := by
  subst hz
  obtain ⟨i0, hi, hz0, hz1, hz2⟩ := info_parts Try.info5
  have h := run_make (P := Try.prog) u 89 5 i0 (.int .u8 0) Try.underlying89 hi hz0 .i64 .i64 0 (n : Int) (by omega) (by omega) (by rw [hz2]; omega) (by omega)
  rw [hz1, Int.toNat_natCast, Nat.mul_one] at h
  rw [← zeros_made]
  exact h

theorem room_ext (w : World) (n : Nat) (hn : n ≤ 140737488355328) : Ext w.heap.size w (.slice none 0 0) (w.alloc (.cells (zeros n) 5)) (.slice (some ⟨w.heap.size, 0, none⟩) 0 n) [] := by
  refine ⟨World.ownsRow_made w _ n (Nat.le_refl _) (by unfold maxLen; omega) (by simp [zeros]), World.grownBy_alloc w _ _, .inr ⟨_, rfl, Nat.le_refl _⟩⟩
end Go.Proofs.Ytbdgdigpnfpnhaa.Q
