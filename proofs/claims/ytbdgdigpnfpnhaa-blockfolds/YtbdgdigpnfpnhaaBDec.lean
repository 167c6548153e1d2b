/-
  Bytes taken to pieces: the reader as it is made, an entry, and what Decode answers.
-/
import Derived.Test.YtbdgdigpnfpnhaaBRd2
import Derived.Laws.EntriesVeiled
namespace Go.Proofs.Ytbdgdigpnfpnhaa
open Go.RowKit

theorem alloc6 (w : World) (o0 o1 o2 o3 o4 o5 : Obj) :
    ((((((w.alloc o0).alloc o1).alloc o2).alloc o3).alloc o4).alloc o5).heap[w.heap.size]? = some o0 ∧ ((((((w.alloc o0).alloc o1).alloc o2).alloc o3).alloc o4).alloc o5).heap[w.heap.size + 1]? = some o1 ∧ ((((((w.alloc o0).alloc o1).alloc o2).alloc o3).alloc o4).alloc o5).heap[w.heap.size + 2]? = some o2 ∧ ((((((w.alloc o0).alloc o1).alloc o2).alloc o3).alloc o4).alloc o5).heap[w.heap.size + 3]? = some o3 ∧ ((((((w.alloc o0).alloc o1).alloc o2).alloc o3).alloc o4).alloc o5).heap[w.heap.size + 4]? = some o4 ∧ ((((((w.alloc o0).alloc o1).alloc o2).alloc o3).alloc o4).alloc o5).heap[w.heap.size + 5]? = some o5 ∧ Below w.heap.size w ((((((w.alloc o0).alloc o1).alloc o2).alloc o3).alloc o4).alloc o5) := by
  have hp : ∀ (v : World) (o : Obj), (v.alloc o).heap = v.heap.push o := fun _ _ => rfl
  refine ⟨?_, ?_, ?_, ?_, ?_, ?_, ?_⟩
  · rw [hp, hp, hp, hp, hp, hp]
    iterate 5 rw [Array.getElem?_push, if_neg (by simp only [Array.size_push]; omega)]
    rw [Array.getElem?_push, if_pos rfl]
  · rw [hp, hp, hp, hp, hp, hp]; simp [Array.getElem_push]
  · rw [hp, hp, hp, hp, hp, hp]; simp [Array.getElem_push]
  · rw [hp, hp, hp, hp, hp, hp]; simp [Array.getElem_push]
  · rw [hp, hp, hp, hp, hp, hp]; simp [Array.getElem_push]
  · rw [hp, hp, hp, hp, hp, hp]; simp [Array.getElem_push]
  · exact ((((((Below.refl _ _).alloc (Nat.le_refl _) _).alloc (by simp) _).alloc (by simp; omega) _).alloc (by simp; omega) _).alloc (by simp; omega) _).alloc (by simp; omega) _

set_option maxRecDepth 100000 in
set_option maxHeartbeats 4000000 in
theorem readerOf_any (w : World) (a : Option Addr) (c : Nat) (b : List UInt8) (h : BytesIn w (.slice a b.length c) b) (hcap : b.length ≤ c) (hno : a = none → c = 0) (hlen : b.length ≤ 1000000000) :
    Calls Try.prog 82 #[.slice a b.length c] w fun e w' => e = .returned (.agg #[mustV w.heap.size, numV w.heap.size, textV w.heap.size, endV w.heap.size]) ∧ RdC w' w.heap.size a c b 0 false ∧ Below w.heap.size w w' := by
  have H : Hid _ := h
  clear h
  go_enter Try.func82, Try.ntmps82
  go_wp2_with (fail)
  obtain ⟨b0, b1, b2, b3, b4, b5, be⟩ := alloc6 w (.cells #[.slice a b.length c] 89) (.cells #[mustV w.heap.size, numV w.heap.size, textV w.heap.size, endV w.heap.size] 117) (.cells #[.int .i64 0] 3) (.cells #[.int .i64 0] 29) (.cells #[mustV w.heap.size] 112) (.cells #[numV w.heap.size] 113)
  refine bodyPost_ret (v := .agg #[mustV w.heap.size, numV w.heap.size, textV w.heap.size, endV w.heap.size]) ?_ rfl ?_
  · have q0 := Joins.cell_of_block b1 0
    have q1 := Joins.cell_of_block b1 1
    have q2 := Joins.cell_of_block b1 2
    have q3 := Joins.cell_of_block b1 3
    simp [results, Try.results82, go_sem, q0, q1, q2, q3]
  · refine ⟨rfl, ⟨b0, b2, b3, b4, b5, Nat.zero_le _, hcap, hno, fun h0 => ?_, hlen⟩, be⟩
    obtain ⟨⟨a', cap', e, hf⟩, _⟩ := H.out
    cases e
    obtain ⟨bl, off, ha, hat⟩ := hf h0
    refine ⟨bl, off, ha, ?_, hat.later be⟩
    exact World.block_lt_of_cell? w _ (hat 0 (List.length_pos_iff.2 h0))
end Go.Proofs.Ytbdgdigpnfpnhaa
