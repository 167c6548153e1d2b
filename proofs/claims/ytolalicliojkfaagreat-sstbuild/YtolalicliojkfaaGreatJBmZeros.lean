/-
  Zeros put behind bytes that the call owns, where there is no room for them ('append(b, make([]byte, k)...)').
-/
import Derived.Test.YtolalicliojkfaaGreatSC
import Derived.Lib.AppendZerosOnto
namespace Go.Proofs.YtolalicliojkfaaGreat
open Go.RowKit

theorem zeroCells_u8 (k : Nat) : (Builtin.zeroCells (Value.int .u8 0).cells k).toList = List.replicate k (Value.int .u8 0) := by
  have : Builtin.zeroCells (Value.int .u8 0).cells k = madeCells #[Value.int .u8 0] (k * 1) := rfl
  rw [Nat.mul_one] at this
  rw [this, toList_madeCells_one]

theorem wpList_append_zeros (w : World) {ops : Array Oper} {rest : List Oper} {o : Oper} {a : Act} {Q : Exit → Act → World → Prop} (hg : o.guard = none) (s x : Operand)
    (hop : o.op = .call { callee := .builtin .append, args := #[s, x], argTypes := #[26, 3] })
    (base g n cap k : Nat) (l : List UInt8) (hn : n = l.length) (hs : a.eval s = .slice (some ⟨g, 0, none⟩) n cap) (hown : w.ownsRow base 5 1 (.slice (some ⟨g, 0, none⟩) n cap) n (bc l))
    (hx : a.eval x = .int .i64 (k : Int)) (hk : 0 < k) (hgrow : cap < n + k) (hroom : n + k ≤ 100000000) (hbase : base ≤ w.heap.size)
    (h : ∀ cap' w', w'.ownsRow base 5 1 (.slice (some ⟨w.heap.size, 0, none⟩) (n + k) cap') (n + k) (bc (l ++ List.replicate k 0)) → w.grownBy w' none → wpList Tryz.prog ops Q rest (a.put o.dst (.slice (some ⟨w.heap.size, 0, none⟩) (n + k) cap')) w') :
    wpList Tryz.prog ops Q (o :: rest) a w := by
  obtain ⟨i0, hi, hz0, hz1, hz2⟩ := info_parts Tryz.info5
  have hf : (Builtin.firstCells i0.size n (.slice (some ⟨g, 0, none⟩) n cap)).run Tryz.prog w.drew = .ok (bc l).toArray w.drew := by
    refine run_firstCells_some _ _ _ _ _ _ _ (by rw [bc_length, hz1]; omega) ?_
    intro j u hj
    exact own_cells hown j u hj
  have hr := Lib.run_append_grow_zeros (P := Tryz.prog) w 26 3 o.type 5 i0 (.int .u8 0) .i64 .i64 Tryz.underlying26 Tryz.underlying3 hi hz0 (some ⟨g, 0, none⟩) n cap (bc l) hf k hk (by rw [hz1]; decide) hgrow (by omega) (by rw [hz2]; omega)
    (by rw [hz2]; have := nextslicecap_le hgrow; omega)
  refine Lib.wpList_append_run w hg s x _ _ hop _ _ hs hx _ _ hr ?_
  refine h _ _ ?_ ?_
  · have c1 := grownCap_ge w (n + k) cap 5
    have c2 := grownCap_le_maxLen w (n + k) cap 5 (by unfold maxLen; omega)
    generalize grownCap w (n + k) cap 5 = C at c1 c2 ⊢
    have lz : ∀ j, (Builtin.zeroCells (Value.int .u8 0).cells j).size = j := fun j => by rw [← Array.length_toList, zeroCells_u8, List.length_replicate]
    refine ⟨by rw [bc_length, List.length_append, List.length_replicate]; omega, .inr ⟨w.heap.size, C, _, rfl, hbase, heap_alloc_new w.drew _, c1, c2, ?_, ?_⟩⟩
    · rw [Array.size_append, Array.size_append, lz, lz, List.size_toArray, bc_length]
      omega
    · rw [Array.toList_append, Array.toList_append, zeroCells_u8, bc_append, bc_zeros, List.take_append_of_le_length (by rw [List.length_append, List.length_replicate, bc_length]; omega)]
      rw [List.take_of_length_le (by rw [List.length_append, List.length_replicate]; simp [bc_length]; omega)]
  · exact grownBy_undrew (World.grownBy_alloc w.drew _ none)
end Go.Proofs.YtolalicliojkfaaGreat
