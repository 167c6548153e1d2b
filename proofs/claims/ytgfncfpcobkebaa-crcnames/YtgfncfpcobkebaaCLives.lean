/-
  The statements' own first question: the example that it asks holds, so it answers true; it leaves all that was there as it was.
-/
import Derived.Test.YtgfncfpcobkebaaCMore
import Derived.Lib.SlBytesConst
namespace Go.Proofs.Ytgfncfpcobkebaa
open Go.RowKit

theorem sum_live : Crc.sum [49, 50, 51, 52, 53, 54, 55, 56, 57] = 3808858755 := by decide +kernel

/-- Bytes that are written out as a text. -/
theorem const_bytes (W : World) (l : List UInt8) (n c B : Nat) (hn : n = l.length) (hB : B = W.heap.size) (cs : Array Value) (hcs : cs.toList = bc l) (t : TypeId) (fr : Nat × Nat) (hl : l.length ≤ 140737488355328) :
    BytesIn (W.alloc (.cells cs t fr)) (.slice (some ⟨B, 0, none⟩) n c) l := by
  subst hB
  refine BytesIn.block (cs := cs) (t := t) (fr := fr) (heap_alloc_new W _) _ hl ?_ c _ hn
  intro j hj
  rw [← Array.getElem?_toList, hcs, bc_get l j hj]

theorem sum_lit (W : World) (l : List UInt8) (n c B : Nat) (hn : n = l.length) (hB : B = W.heap.size) (cs : Array Value) (hcs : cs.toList = bc l) (t : TypeId) (fr : Nat × Nat) (hl : l.length ≤ 1000) (z : Int) (hz : ((Crc.sum l : Nat) : Int) = z) :
    Calls Try.prog 11 #[.slice (some ⟨B, 0, none⟩) n c] (W.alloc (.cells cs t fr)) fun e w' => e = .returned (.int .u32 z) ∧ w' = W.alloc (.cells cs t fr) := by
  subst hz
  exact sum_any _ _ l (const_bytes W l n c B hn hB cs hcs t fr (by omega))

set_option maxHeartbeats 800000 in
theorem lives_any (w : World) : Calls Try.prog 13 #[] w fun e w' => e = .returned (.bool true) ∧ Below w.heap.size w w' := by
  have kc := fun (w : World) (C : Array Value) (n c : Nat) => Lib.run_convert_bytes_const (P := Try.prog) w 22 5 C n c Try.underlying22 Try.underlying5
  have B0 : ∀ o, Below w.heap.size w (w.alloc o) := fun o => (Below.refl _ _).alloc (Nat.le_refl _) o
  go_enter Try.func13, Try.ntmps13
  go_wp2_with (go_at_call 11; refine (sum_lit w [49, 50, 51, 52, 53, 54, 55, 56, 57] 9 9 _ rfl rfl _ rfl _ _ (by decide) 3808858755 (by rw [sum_live]; rfl)).mono ?_; rintro e w1 ⟨rfl, rfl⟩)
  go_ret
  exact ⟨rfl, B0 _⟩
end Go.Proofs.Ytgfncfpcobkebaa
