/-
  Whether a key is in a span.
-/
import Derived.Test.YtaadcpmapdbodaaMTab
namespace Go.Proofs.Ytaadcpmapdbodaa
open Go.RowKit
namespace Mm
def inB (k lo hi : Bs) : Bool := !Op.bytesLess k lo && (decide (hi = []) || Op.bytesLess k hi)
end Mm
set_option maxRecDepth 10000 in
set_option maxHeartbeats 1600000 in
theorem in_any (w : World) (k lo hi : Mm.Bs) : Calls Try.prog 69 #[str k, .agg #[str lo, str hi]] w fun e w' => e = .returned (.bool (Mm.inB k lo hi)) ∧ Below w.heap.size w w' := by
  unfold Mm.inB
  cases h1 : Op.bytesLess k lo with
  | true =>
    go_enter Try.func69, Try.ntmps69
    go_wp2_with (fail)
    go_ret
    exact ⟨rfl, (Below.refl _ _).alloc (Nat.le_refl _) _⟩
  | false =>
    cases hi with
    | nil =>
      go_enter Try.func69, Try.ntmps69
      go_wp2_with (fail)
      go_ret
      exact ⟨rfl, (Below.refl _ _).alloc (Nat.le_refl _) _⟩
    | cons c r =>
      cases h2 : Op.bytesLess k (c :: r) with
      | true =>
        go_enter Try.func69, Try.ntmps69
        go_wp2_with (fail)
        go_ret
        exact ⟨by simp, (Below.refl _ _).alloc (Nat.le_refl _) _⟩
      | false =>
        go_enter Try.func69, Try.ntmps69
        go_wp2_with (fail)
        go_ret
        exact ⟨by simp, (Below.refl _ _).alloc (Nat.le_refl _) _⟩
end Go.Proofs.Ytaadcpmapdbodaa
