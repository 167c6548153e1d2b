/-
  Plain: what the document's Build holds behind k blocks.
-/
import Derived.Test.YtolalicliojkfaaGreatSP
namespace Go.Proofs.YtolalicliojkfaaGreat
open Go.RowKit
namespace Ss
open Mm (Ent)

/-- What the index says of the first k blocks, without its count. -/
def ix (l : List Ent) (p : Nat) : Nat → Bs
  | 0 => []
  | k + 1 => ix l p k ++ partB ((Bk.blockB (piece l p k)).length + 12) (lastOf (piece l p k)).key (lastOf (piece l p k)).seq.toNat
theorem idxB_ix (l : List Ent) (p : Nat) : ∀ k, idxB l p k = Enc.leb (cnt l p) ++ ix l p k
  | 0 => by show Enc.leb (cnt l p) = Enc.leb (cnt l p) ++ []; rw [List.append_nil]
  | k + 1 => by
    show idxB l p k ++ _ = Enc.leb (cnt l p) ++ (ix l p k ++ _)
    rw [idxB_ix l p k, List.append_assoc]
theorem ix_len {l : List Ent} {p d : Nat} (h : checkE l p d = 0) (k : Nat) (hk : k ≤ cnt l p) : (ix l p k).length ≤ 10 + k * 542 := by
  have := idxB_len h k hk
  rw [idxB_ix, List.length_append] at this
  omega
/-- The keys of the first k blocks. -/
theorem keys_piece (l : List Ent) (p k : Nat) : (keysB l).take (k * p) ++ keysB (piece l p k) = (keysB l).take ((k + 1) * p) := by
  unfold keysB piece
  rw [← List.map_take, ← List.map_append, ← List.map_take, Nat.succ_mul, List.take_add]
end Ss
end Go.Proofs.YtolalicliojkfaaGreat
