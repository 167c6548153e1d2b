/-
  A new list of bytes, all 0, and bytes copied into it: what lies there then.
-/
import Derived.Test.YtanhmebjfockjaaJKBytes
import Derived.Laws.CopyOwn
import Derived.Laws.MakeOwn
namespace Go.Proofs.Ytanhmebjfockjaa
open Go.RowKit

def zeros (n : Nat) : Array Value := (List.replicate n (Value.int .u8 0)).toArray
theorem zeros_made (n : Nat) : madeCells #[Value.int .u8 0] n = zeros n := by
  apply Array.ext'
  rw [toList_madeCells_one]
  simp [zeros]
theorem bc_zeros (n : Nat) : bc (List.replicate n 0) = List.replicate n (Value.int .u8 0) := by
  unfold bc
  rw [List.map_replicate]
  rfl

theorem make_bytes (n : Nat) (hn : n ≤ 140737488355328) (z : Int) (hz : z = (n : Int)) (u : World) : (Instr.makeSlice 53 (.int .i64 z) (.int .i64 z)).run Try.prog u =
    .ok (.slice (some ⟨u.heap.size, 0, none⟩) n n) (u.alloc (.cells (zeros n) 5)) := by
  subst hz
  obtain ⟨i0, hi, hz0, hz1, hz2⟩ := info_parts Try.info5
  have h := run_make (P := Try.prog) u 53 5 i0 (.int .u8 0) Try.underlying53 hi hz0 .i64 .i64 (n : Int) (n : Int) (by omega) (Int.le_refl _) (by rw [hz2]; omega) (by omega)
  rw [hz1, Int.toNat_natCast, Nat.mul_one] at h
  rw [← zeros_made]
  exact h

theorem take_zeros (l : List UInt8) (n k : Nat) (hk : k = l.length) : splice (List.replicate n (Value.int .u8 0)) 0 (bc (l.take n)) = bc (l.take n ++ List.replicate (n - k) 0) := by
  subst hk
  unfold splice
  rw [bc_append, bc_zeros, bc_length, List.length_take, List.drop_replicate, List.take_zero, List.nil_append]
  congr 2
  omega

/-- Bytes that came in copied over a new list. -/
theorem wpList_copy_in (w : World) {ops : Array Oper} {rest : List Oper} {o : Oper} {a : Act} {Q : Exit → Act → World → Prop} (hg : o.guard = none) (d s : Operand)
    (hop : o.op = .call { callee := .builtin .copy, args := #[d, s], argTypes := #[53, 53] })
    (w0 : World) (n k c : Nat) (l m : List UInt8) (hw : w = w0.alloc (.cells (zeros n) 5)) (hd : a.eval d = .slice (some ⟨w0.heap.size, 0, none⟩) n n) (ao : Option Addr) (hs : a.eval s = .slice ao k c)
    (hk : k = l.length) (hin : BytesIn w0 (.slice ao k c) l) (hm : m = l.take n ++ List.replicate (n - k) 0) (hn : n ≤ 140737488355328)
    (h : ∀ w' r, w'.ownsRow w0.heap.size 5 1 (.slice (some ⟨w0.heap.size, 0, none⟩) n n) n (bc m) → w0.grownBy w' none → wpList Try.prog ops Q rest (a.put o.dst r) w') :
    wpList Try.prog ops Q (o :: rest) a w := by
  subst hw
  obtain ⟨i0, hi, hz0, hz1, hz2⟩ := info_parts Try.info5
  have hml : m.length = n := by rw [hm, List.length_append, List.length_take, List.length_replicate]; omega
  obtain ⟨⟨a', cap', e, hf⟩, hlen⟩ := hin
  simp only [Value.slice.injEq] at e
  obtain ⟨rfl, e2, rfl⟩ := e
  refine wpList_copy_splice hg d s 53 53 hop 5 Try.underlying53 (by rw [hi]; simp [hz1]) _ _ n n k c hd hs w0.heap.size 0 (List.replicate n (.int .u8 0)) 5 (heap_alloc_new w0 _) (bc (l.take n)) ?_ ?_ ?_ (bc_one _) w0.heap.size w0 ((Below.refl _ _).alloc (Nat.le_refl _) _) (Nat.le_refl _) ?_
  · rw [bc_length, List.length_take, hk, Nat.min_comm]
  · intro h0
    refine ⟨rfl, ?_⟩
    rw [bc_length, List.length_take] at h0
    obtain ⟨b, off, rfl, hat⟩ := hf (by intro e; rw [e] at h0; simp at h0)
    refine ⟨_, rfl, ?_⟩
    have hat' := hat.later (w' := w0.alloc (.cells (zeros n) 5)) ((Below.refl _ _).alloc (Nat.le_refl _) _)
    intro j v hv
    refine BytesIn.cells (l := l) (fun _ => ⟨b, off, rfl, hat'⟩) _ rfl j v ?_
    unfold bc at hv ⊢
    rw [List.map_take, List.getElem?_take] at hv
    split at hv
    · exact hv
    · cases hv
  · rw [bc_length, List.length_take, List.length_replicate]; omega
  · intro w' HG hB
    have HG' := HG.out
    rw [take_zeros l n k hk, ← hm] at HG'
    refine h w' _ ⟨by rw [bc_length, hml]; omega, .inr ⟨w0.heap.size, n, _, rfl, Nat.le_refl _, HG', Nat.le_refl _, by unfold maxLen; omega, ?_, ?_⟩⟩ ⟨hB.os, hB.tape, hB.output, hB.size, fun i hi _ => hB.block i hi⟩
    · simp [bc_length, hml]
    · simp only [Nat.mul_one]
      rw [List.take_of_length_le (by rw [bc_length, hml]; omega)]

theorem ext_of_own {w w' : World} {n : Nat} {m : List UInt8} (h : w'.ownsRow w.heap.size 5 1 (.slice (some ⟨w.heap.size, 0, none⟩) n n) n (bc m)) (hn : n = m.length) (hg : w.grownBy w' none) :
    Ext w.heap.size w (.slice none 0 0) w' (.slice (some ⟨w.heap.size, 0, none⟩) n n) m := ⟨by rw [← hn]; exact h, hg, .inr ⟨_, rfl, Nat.le_refl _⟩⟩
theorem ext_nil {base : Nat} {w w' : World} (h : w.grownBy w' none) : Ext base w (.slice none 0 0) w' (.slice none 0 0) [] := ⟨World.ownsRow_nil _ _ _ _, h, .inl rfl⟩

theorem BytesIn.cut {w : World} {a0 : Option Addr} {k c0 : Nat} {l : List UInt8} (h : BytesIn w (.slice a0 k c0) l) (n : Nat) (hn : n ≤ l.length) (c : Nat) : BytesIn w (.slice a0 n c) (l.take n) := by
  obtain ⟨⟨a, c', e, hf⟩, hlen⟩ := h
  simp only [Value.slice.injEq] at e
  obtain ⟨rfl, rfl, rfl⟩ := e
  have hl : (l.take n).length = n := by rw [List.length_take]; omega
  refine ⟨⟨a0, c, by rw [hl], fun h0 => ?_⟩, by omega⟩
  obtain ⟨b, off, rfl, hat⟩ := hf (by intro e; rw [e] at h0; simp at h0)
  refine ⟨b, off, rfl, fun j hj => ?_⟩
  rw [hl] at hj
  have := hat j (by omega)
  rw [this, List.getElem_take]

theorem BytesIn.spot {w : World} {a0 : Option Addr} {c0 : Nat} {l : List UInt8} (h : BytesIn w (.slice a0 l.length c0) l) (j : Nat) (hj : j < l.length) : ∃ b off, a0 = some ⟨b, off, none⟩ ∧ w.cell? ⟨b, off + j, none⟩ = some (.int .u8 ((l[j]).toNat : Int)) := by
  obtain ⟨⟨a, c', e, hf⟩, hlen⟩ := h
  simp only [Value.slice.injEq, true_and] at e
  obtain ⟨rfl, rfl⟩ := e
  obtain ⟨b, off, rfl, hat⟩ := hf (by intro e; rw [e] at hj; simp at hj)
  exact ⟨b, off, rfl, hat j hj⟩

theorem below_of {w w' : World} (h : w.grownBy w' none) : Below w.heap.size w w' := ⟨h.os, h.tape, h.output, h.size, fun i hi => h.block i hi (by simp)⟩
end Go.Proofs.Ytanhmebjfockjaa
