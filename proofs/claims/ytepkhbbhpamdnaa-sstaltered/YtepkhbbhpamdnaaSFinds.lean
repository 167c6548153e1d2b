/-
  The walk of SstFinds.
-/
import Derived.Test.YtepkhbbhpamdnaaSFnQ
import Derived.Test.YtepkhbbhpamdnaaSSmall
import Derived.Test.YtepkhbbhpamdnaaSLives
import Derived.Deep.Cut
namespace Go.Proofs.Ytepkhbbhpamdnaa.sstFinds
open Go.RowKit
open Go.Proofs.Ytepkhbbhpamdnaa

set_option maxRecDepth 100000 in
set_option maxHeartbeats 1000000 in
theorem sall_any (w : World) (base B n : Nat) (t : Ss.Tab) (h : TabAt w base B t n) (ok : Ss.TabOk t) (hn : n ≤ 900000000) :
    Calls Try.prog 14 #[.pointer (some ⟨B, 0, none⟩)] w fun e w' => ScanAns w B n t [] [] e w' := by
  have SC := hide (sscan_any w base B n t h ok [] [] hn)
  go_enter Try.func14, Try.ntmps14
  go_wp2_with (go_at_call 44; refine SC.out.mono ?_; rintro e w1 ⟨v, E, rfl, H, u⟩; clear SC)
  go_ret2
  exact ⟨v, E, rfl, H, u⟩

theorem last_key {l : List Mm.Ent} {p d : Nat} (h : Ss.checkE l p d = 0) {m : Nat} (hm : m < l.length) (e : l.length = m + 1) : lastKeyP (Ss.tabOf l p d).parts = l[m].key := by
  obtain ⟨c1, c2⟩ := Ss.cnt_le h
  have hd := Ss.drop_all h
  rw [List.drop_eq_nil_iff] at hd
  unfold lastKeyP Ss.tabOf
  obtain ⟨k, hk⟩ : ∃ k, Ss.cnt l p = k + 1 := ⟨Ss.cnt l p - 1, by omega⟩
  obtain ⟨i1, a1, e1⟩ := Ss.last_piece h (show k < Ss.cnt l p by omega)
  rw [hk] at hd
  rw [Nat.succ_mul] at hd
  have hx : min (k * p + p) l.length - 1 = m := by omega
  show ((Ss.prts l p (Ss.cnt l p)).getLast?.map (·.key)).getD [] = _
  rw [hk, Ss.prts, List.getLast?_append]
  show (Ss.lastOf (Ss.piece l p k)).key = _
  rw [e1]
  congr 2
/-- The list that the statement makes. -/
structure Wn (wL wr : World) (v : Value) (o : List Mm.Ent) : Prop where
  own : wr.ownsRow wL.heap.size 39 4 v o.length (ecs o)
  below : Below wL.heap.size wL wr
/-- Two entries put by: both can be read. -/
theorem two_cells {w6 w8 : World} {K V : List UInt8} {Q : Int} {D : Bool} (b8 : Below (w6.alloc (.cells #[str K, str V, .int .i64 Q, .bool D] 39)).heap.size (w6.alloc (.cells #[str K, str V, .int .i64 Q, .bool D] 39)) w8) (W9 : World) (h9 : W9 = w8.alloc (.cells #[str K, str V, .int .i64 Q, .bool D] 39)) :
    (W9.cell? ⟨w6.heap.size, 0, none⟩ = some (str K) ∧ W9.cell? ⟨w6.heap.size, 1, none⟩ = some (str V) ∧ W9.cell? ⟨w6.heap.size, 2, none⟩ = some (.int .i64 Q) ∧ W9.cell? ⟨w6.heap.size, 3, none⟩ = some (.bool D)) ∧
    (W9.cell? ⟨w8.heap.size, 0, none⟩ = some (str K) ∧ W9.cell? ⟨w8.heap.size, 1, none⟩ = some (str V) ∧ W9.cell? ⟨w8.heap.size, 2, none⟩ = some (.int .i64 Q) ∧ W9.cell? ⟨w8.heap.size, 3, none⟩ = some (.bool D)) := by
  subst h9
  have h6 := keepB b8 (World.alloc_heap_new w6 _)
  have hz : w6.heap.size < w8.heap.size := by have := b8.size; simp at this; omega
  have h6' : (w8.alloc (.cells #[str K, str V, .int .i64 Q, .bool D] 39)).heap[w6.heap.size]? = some (.cells #[str K, str V, .int .i64 Q, .bool D] 39) := (Below.heap_alloc _ _ _ hz).trans h6
  have h8 := World.alloc_heap_new w8 (.cells #[str K, str V, .int .i64 Q, .bool D] 39)
  exact ⟨⟨Joins.cell_of_block h6' 0, Joins.cell_of_block h6' 1, Joins.cell_of_block h6' 2, Joins.cell_of_block h6' 3⟩, Joins.cell_of_block h8 0, Joins.cell_of_block h8 1, Joins.cell_of_block h8 2, Joins.cell_of_block h8 3⟩
end Go.Proofs.Ytepkhbbhpamdnaa.sstFinds
