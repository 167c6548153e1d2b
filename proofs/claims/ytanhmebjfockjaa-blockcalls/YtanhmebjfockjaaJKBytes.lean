/-
  Lists of bytes, as all walks of the later layers share them: where they lie, lists that a call owns, what an append and a copy leave. Nothing here speaks of a function of the program.
-/
import Derived.Test.YtanhmebjfockjaaProg
import Derived.Test.YtanhmebjfockjaaJBase
import Derived.Deep.RegionHeld3
import Derived.Deep.QuietTactic
import Derived.BigQuiet
import Derived.Laws.IdiomStrings
namespace Go.Proofs.Ytanhmebjfockjaa
open Go.RowKit

theorem Try.info5 : (Try.prog.info? 5).map (fun i => (i.zero, i.size, i.bytes)) = some (some (.int .u8 0), 1, 1) := by kernel_rfl

/-- Where the bytes of a slice lie. -/
def BytesAt (w : World) (b off : Nat) (l : List UInt8) : Prop := ∀ j (h : j < l.length), w.cell? ⟨b, off + j, none⟩ = some (.int .u8 ((l[j]).toNat : Int))

structure BytesIn (w : World) (v : Value) (l : List UInt8) : Prop where
  form : ∃ a cap, v = .slice a l.length cap ∧ (l ≠ [] → ∃ b off, a = some ⟨b, off, none⟩ ∧ BytesAt w b off l)
  len : l.length ≤ 140737488355328

theorem BytesAt.later {w w' : World} {b off : Nat} {l : List UInt8} (h : BytesAt w b off l) (hb : Below w.heap.size w w') : BytesAt w' b off l := fun j hj =>
  (hb.cell (p := ⟨b, off + j, none⟩) (World.block_lt_of_cell? w _ (h j hj))).trans (h j hj)
theorem BytesIn.later {w w' : World} {v : Value} {l : List UInt8} (h : BytesIn w v l) (hb : Below w.heap.size w w') : BytesIn w' v l := by
  obtain ⟨⟨a, cap, hv, hf⟩, hlen⟩ := h
  exact ⟨⟨a, cap, hv, fun h0 => by obtain ⟨b, off, ha, hat⟩ := hf h0; exact ⟨b, off, ha, hat.later hb⟩⟩, hlen⟩
/-- Bytes in a block that is known whole. -/
theorem BytesIn.block {w : World} {B : Nat} {cs : Array Value} {t : TypeId} {fr : Nat × Nat} (hb : w.heap[B]? = some (.cells cs t fr)) (l : List UInt8) (hl : l.length ≤ 140737488355328) (hc : ∀ j (h : j < l.length), cs[j]? = some (.int .u8 ((l[j]).toNat : Int))) (cap n : Nat) (hn : n = l.length) :
    BytesIn w (.slice (some ⟨B, 0, none⟩) n cap) l := by
  subst hn
  refine ⟨⟨_, cap, rfl, fun _ => ⟨B, 0, rfl, fun j hj => ?_⟩⟩, hl⟩
  rw [cell_of_row w B (0 + j) cs t fr hb, Nat.zero_add]
  exact hc j hj

/-- A text made of bytes that the call owns. -/
theorem Ext.str {base : Nat} {a b : World} {u v : Value} {l : List UInt8} (h : Ext base a u b v l) : (convert 53 9 v).run Try.prog b = .ok (.string ⟨l.toArray⟩) b := by
  rcases h.own.2 with ⟨rfl, h0⟩ | ⟨g, cap, cur, hv, _⟩
  · have : l = [] := List.eq_nil_of_length_eq_zero h0
    subst this
    exact run_convert_bytes_nil b 53 5 Try.underlying53 Try.underlying5 0 0 _ Try.underlying9
  · have ho := h.own
    subst hv
    refine run_convert_bytes_back b 53 9 5 ⟨g, 0, none⟩ cap l Try.underlying53 Try.underlying5 Try.underlying9 ?_
    intro j hj
    have hadd : (⟨g, 0, none⟩ : Addr).add j = ⟨g, j, none⟩ := by unfold Addr.add; split <;> simp_all
    rw [hadd, ho.cellAt j (by omega), bc_get l j hj]

theorem Ext.shape {base : Nat} {a b : World} {u v : Value} {l : List UInt8} (h : Ext base a u b v l) : ∃ ad cap, v = .slice ad l.length cap := by
  rcases h.own.2 with ⟨rfl, h0⟩ | ⟨g, cap, cur, rfl, _⟩
  · exact ⟨none, 0, by rw [h0]⟩
  · exact ⟨_, cap, rfl⟩

theorem Ext.kept_own {base base2 : Nat} {a b c : World} {u v y : Value} {l m : List UInt8} (h : Ext base a u b v l) (k : Ext base2 b (.slice none 0 0) c y m) : c.ownsRow base 5 1 v l.length (bc l) :=
  h.own.kept k.grown (by cases v.ownBlock with | none => exact .inl rfl | some g => exact .inr (by simp [Value.ownBlock]))

theorem Ext.lit0 (base : Nat) (w : World) (cs : Array Value) (l : List UInt8) (n : Nat) (hb : base ≤ w.heap.size) (hcs : cs.toList = bc l) (hn : n = l.length) (hm : n ≤ maxLen) :
    Ext base w (.slice none 0 0) (w.alloc (.cells cs 5)) (.slice (some ⟨w.heap.size, 0, none⟩) n n) l := by
  subst hn
  have hz : cs.size = l.length * 1 := by rw [← Array.length_toList, hcs, bc_length]; omega
  have h := World.ownsRow_lit (size := 1) (e := 5) (base := base) w cs l.length hb hm hz
  rw [hcs] at h
  exact ⟨h, World.grownBy_alloc w _ _, .inr ⟨w.heap.size, rfl, Nat.le_refl _⟩⟩

/-- The block of the call's own parameter is new memory, too. -/
theorem Ext.unalloc {base : Nat} {w w' : World} {o : Obj} {v : Value} {l : List UInt8} (h : Ext base (w.alloc o) (.slice none 0 0) w' v l) : Ext base w (.slice none 0 0) w' v l := by
  refine ⟨h.own, grownBy_trans (World.grownBy_alloc w o _) h.grown (.inl rfl), ?_⟩
  rcases h.lies with e | ⟨g, e, hg⟩
  · exact .inl e
  · exact .inr ⟨g, e, by simp at hg; omega⟩

theorem Ext.lit (w : World) (o : Obj) (cs : Array Value) (l : List UInt8) (n : Nat) (hcs : cs.toList = bc l) (hn : n = l.length) (hm : n ≤ maxLen) :
    Ext w.heap.size w (.slice none 0 0) ((w.alloc o).alloc (.cells cs 5)) (.slice (some ⟨w.heap.size + 1, 0, none⟩) n n) l := by
  have h := (Ext.lit0 w.heap.size (w.alloc o) cs l n (by simp) hcs hn hm).unalloc
  rwa [World.size_alloc] at h

/-- Bytes put behind bytes that the call owns. -/
theorem wpList_append_bytes (w : World) {ops : Array Oper} {rest : List Oper} {o : Oper} {a : Act} {Q : Exit → Act → World → Prop} (hg : o.guard = none) (s x : Operand)
    (hop : o.op = .call { callee := .builtin .append, args := #[s, x], argTypes := #[53, 53] })
    (base : Nat) (v : Value) (l m : List UInt8) (hs : a.eval s = v) (hown : w.ownsRow base 5 1 v l.length (bc l))
    (ad : Addr) (k c : Nat) (hx : a.eval x = .slice (some ad) k c) (hk : k = m.length) (hc : ∀ j u, (bc m)[j]? = some u → w.cell? (ad.add j) = some u) (hm : 0 < m.length)
    (hroom : l.length + m.length ≤ 140737488355328) (hbase : base ≤ w.heap.size)
    (h : ∀ g cap L w', Hid (L = (l ++ m).length) → Ext base w v w' (.slice (some ⟨g, 0, none⟩) L cap) (l ++ m) → g < w'.heap.size → wpList Try.prog ops Q rest (a.put o.dst (.slice (some ⟨g, 0, none⟩) L cap)) w') :
    wpList Try.prog ops Q (o :: rest) a w := by
  subst hk
  obtain ⟨i0, hi, hz0, hz1, hz2⟩ := info_parts Try.info5
  refine wpList_append_lies w hg s x 53 hop base 5 i0 (.int .u8 0) 1 1 Try.underlying53 hi hz0 hz1 hz2 rfl (by decide) v l.length (bc l) hs hown ad m.length c (bc m) hx (by rw [bc_length]; omega) hc (bc_one m) hm (by unfold maxLen; omega) (by omega) hbase _ rfl ?_
  intro g cap w' h1 h2 h3 h4
  have he : (l ++ m).length = l.length + m.length := List.length_append
  refine h g cap (l.length + m.length) w' he.symm ⟨by rw [he, bc_append]; exact h1, h2, ?_⟩ h4
  rcases h3 with h3 | h3
  · exact .inl h3.symm
  · exact .inr ⟨g, rfl, by omega⟩

/-- The bytes of a list that the call owns, where it lies. -/
theorem own_cells {w : World} {base g n cap : Nat} {m : List UInt8} (h : w.ownsRow base 5 1 (.slice (some ⟨g, 0, none⟩) n cap) n (bc m)) : ∀ j u, (bc m)[j]? = some u → w.cell? ((⟨g, 0, none⟩ : Addr).add j) = some u := by
  intro j u hu
  have hadd : (⟨g, 0, none⟩ : Addr).add j = ⟨g, j, none⟩ := by unfold Addr.add; split <;> simp_all
  have hj : j < n := by
    have := h.1
    rcases Nat.lt_or_ge j n with h | h
    · exact h
    · rw [List.getElem?_eq_none (by omega)] at hu; cases hu
  rw [hadd, h.cellAt j (by omega), hu]

theorem Ext.beside {base base2 : Nat} {a b c : World} {u v y : Value} {l m : List UInt8} (h : Ext base a u b v l) (k : Ext base2 b (.slice none 0 0) c y m) : Ext base a u c v l :=
  ⟨h.kept_own k, ⟨k.grown.os.trans h.grown.os, k.grown.tape.trans h.grown.tape, k.grown.output.trans h.grown.output, Nat.le_trans h.grown.size k.grown.size, fun i hi hne => (k.grown.block i (Nat.lt_of_lt_of_le hi h.grown.size) (by simp [Value.ownBlock])).trans (h.grown.block i hi hne)⟩, h.lies⟩

theorem Ext.some {base : Nat} {a b : World} {u v : Value} {l : List UInt8} (h : Ext base a u b v l) (hl : l ≠ []) : ∃ g cap, v = .slice (some ⟨g, 0, none⟩) l.length cap := by
  rcases h.own.2 with ⟨_, h0⟩ | ⟨g, cap, cur, rfl, _⟩
  · exact absurd (List.eq_nil_of_length_eq_zero h0) hl
  · exact ⟨g, cap, rfl⟩

theorem BytesIn.cells {w : World} {a : Option Addr} {l : List UInt8} (h : l ≠ [] → ∃ b off, a = some ⟨b, off, none⟩ ∧ BytesAt w b off l) :
    ∀ ad, a = some ad → ∀ j u, (bc l)[j]? = some u → w.cell? (ad.add j) = some u := by
  intro ad ha j u hu
  have hj : j < l.length := by
    rcases Nat.lt_or_ge j l.length with h | h
    · exact h
    · rw [List.getElem?_eq_none (by rw [bc_length]; exact h)] at hu; cases hu
  obtain ⟨b, off, hb, hat⟩ := h (by intro e; rw [e] at hj; simp at hj)
  rw [ha] at hb
  have : ad = ⟨b, off, none⟩ := Option.some.inj hb
  subst this
  have hadd : (⟨b, off, none⟩ : Addr).add j = ⟨b, off + j, none⟩ := by unfold Addr.add; split <;> simp_all
  rw [hadd, hat j hj]
  rw [bc_get l j hj] at hu
  exact hu

theorem bytes_nil_ok {w : World} {a : Option Addr} {c : Nat} {l : List UInt8} (h : BytesIn w (.slice a l.length c) l) : a = none → l = [] := by
  intro e
  obtain ⟨⟨a', cap', e', hf⟩, _⟩ := h
  simp only [Value.slice.injEq, true_and] at e'
  obtain ⟨rfl, rfl⟩ := e'
  by_cases h0 : l = []
  · exact h0
  · obtain ⟨b, off, hb, _⟩ := hf h0; rw [e] at hb; cases hb

/-- Bytes that came in put behind a new list: none of them, too. -/
theorem wpList_copy_bytes (w : World) {ops : Array Oper} {rest : List Oper} {o : Oper} {a : Act} {Q : Exit → Act → World → Prop} (hg : o.guard = none) (s x : Operand)
    (hop : o.op = .call { callee := .builtin .append, args := #[s, x], argTypes := #[53, 53] })
    (base g : Nat) (m : List UInt8) (k c : Nat) (hk : k = m.length) (hs : a.eval s = .slice (some ⟨g, 0, none⟩) 0 0) (hown : w.ownsRow base 5 1 (.slice (some ⟨g, 0, none⟩) 0 0) 0 (bc []))
    (ao : Option Addr) (hx : a.eval x = .slice ao k c) (hin : BytesIn w (.slice ao k c) m) (hnone : ao = none → c = 0) (hroom : m.length ≤ 140737488355328) (hbase : base ≤ w.heap.size)
    (h : ∀ g' cap' L w', Hid (L = m.length) → Ext base w (.slice (some ⟨g, 0, none⟩) 0 0) w' (.slice (some ⟨g', 0, none⟩) L cap') m → wpList Try.prog ops Q rest (a.put o.dst (.slice (some ⟨g', 0, none⟩) L cap')) w') :
    wpList Try.prog ops Q (o :: rest) a w := by
  subst hk
  obtain ⟨i0, hi, hz0, hz1, hz2⟩ := info_parts Try.info5
  have hno := bytes_nil_ok hin
  obtain ⟨⟨a', cap', e, hf⟩, hlen⟩ := hin
  simp only [Value.slice.injEq, true_and] at e
  obtain ⟨rfl, rfl⟩ := e
  by_cases hm : m = []
  · subst hm
    refine wpList_append_fits_any w hg s x 53 hop base 5 i0 1 Try.underlying53 hi hz1 g 0 0 (bc []) hs hown ao 0 c [] hx rfl (fun h0 => ⟨rfl, hnone h0⟩) (fun ad _ j u hj => by simp at hj) (by simp) (Nat.le_refl _) ?_
    intro w' h1 h2
    exact h g 0 0 w' rfl ⟨h1, h2, .inl rfl⟩
  · obtain ⟨b, off, rfl, hat⟩ := hf hm
    refine wpList_append_bytes w hg s x hop base _ [] m hs hown ⟨b, off, none⟩ m.length c hx rfl (BytesIn.cells (fun _ => ⟨b, off, rfl, hat⟩) _ rfl) (List.length_pos_iff.mpr hm) (by simpa using hroom) hbase ?_
    intro g' cap' L w' hL hx' _
    exact h g' cap' L w' (by have := hL.out; rw [List.nil_append] at this; exact this) (by simpa using hx')
theorem bytes_of_own {w : World} {base : Nat} {v : Value} {l : List UInt8} (h : w.ownsRow base 5 1 v l.length (bc l)) (hl : l.length ≤ 140737488355328) : BytesIn w v l := by
  rcases h.2 with ⟨rfl, h0⟩ | ⟨g, cap, cur, rfl, _⟩
  · exact ⟨⟨none, 0, by rw [h0], fun hne => absurd (List.eq_nil_of_length_eq_zero h0) hne⟩, hl⟩
  · refine ⟨⟨_, cap, rfl, fun _ => ⟨g, 0, rfl, fun j hj => ?_⟩⟩, hl⟩
    rw [Nat.zero_add, h.cellAt j (by omega), bc_get l j hj]

/-- The first part of a list that lies in a block of its own. -/
theorem own_shrink {w : World} {base g k n cap : Nat} {xs ys : List UInt8} (h : w.ownsRow base 5 1 (.slice (some ⟨g, 0, none⟩) k cap) k (bc (xs ++ ys))) (hn : n = xs.length) (hk : n ≤ k) : w.ownsRow base 5 1 (.slice (some ⟨g, 0, none⟩) n cap) n (bc xs) := by
  subst hn
  refine ⟨by rw [bc_length]; omega, .inr ?_⟩
  rcases h.2 with ⟨h', _⟩ | ⟨g', cap', cur, h', hb, hg, hnc, hcm, hcs, htake⟩
  · cases h'
  · simp only [Value.slice.injEq, Option.some.injEq, Addr.mk.injEq, and_true, true_and] at h'
    obtain ⟨rfl, rfl⟩ := h'
    refine ⟨g, cap, cur, rfl, hb, hg, by omega, hcm, hcs, ?_⟩
    have := congrArg (List.take (xs.length * 1)) htake
    rw [List.take_take, Nat.min_eq_left (by omega)] at this
    rw [this, bc_append, Nat.mul_one, List.take_left' (bc_length xs)]

theorem none_kept (v : Value) : v.ownBlock = none ∨ v.ownBlock ≠ none := by cases v.ownBlock with | none => exact .inl rfl | some _ => exact .inr (by simp)

theorem own_later {w w' : World} {base n : Nat} {v : Value} {xs : List Value} (h : w.ownsRow base 5 1 v n xs) (hb : Below w.heap.size w w') : w'.ownsRow base 5 1 v n xs :=
  h.kept (w' := w') (row := none) ⟨hb.os, hb.tape, hb.output, hb.size, fun k hk _ => hb.block k hk⟩ (none_kept _)

theorem own_base {w : World} {base base' : Nat} {v : Value} {n : Nat} {xs : List Value} (h : w.ownsRow base 5 1 v n xs) (hb : base' ≤ base) : w.ownsRow base' 5 1 v n xs := by
  refine ⟨h.1, ?_⟩
  rcases h.2 with h' | ⟨g, cap, cur, e, h1, h2⟩
  · exact .inl h'
  · exact .inr ⟨g, cap, cur, e, Nat.le_trans hb h1, h2⟩

theorem own_cap {w : World} {base g n cap : Nat} {xs : List Value} (h : w.ownsRow base 5 1 (.slice (some ⟨g, 0, none⟩) n cap) n xs) : n ≤ cap ∧ g < w.heap.size ∧ base ≤ g := by
  have h1 := h.lt g rfl
  rcases h.2 with ⟨e, _⟩ | ⟨g', cap', cur, e, hb', _, hnc, _⟩
  · cases e
  · simp only [Value.slice.injEq, Option.some.injEq, Addr.mk.injEq, and_true, true_and] at e
    exact ⟨by omega, h1.2, h1.1⟩

end Go.Proofs.Ytanhmebjfockjaa
