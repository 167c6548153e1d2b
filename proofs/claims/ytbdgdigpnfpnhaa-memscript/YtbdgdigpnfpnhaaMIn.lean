/-
  Whether a key is in a span.
-/
import Derived.Test.YtbdgdigpnfpnhaaBTell
import Derived.Test.YtbdgdigpnfpnhaaMTab
namespace Go.Proofs.Ytbdgdigpnfpnhaa.Q.P
open Go.RowKit
end Go.Proofs.Ytbdgdigpnfpnhaa.Q.P
namespace Go.Proofs.Ytbdgdigpnfpnhaa.Q.Mm
end Go.Proofs.Ytbdgdigpnfpnhaa.Q.Mm
namespace Go.Proofs.Ytbdgdigpnfpnhaa.Q.P
open Go.RowKit
set_option maxRecDepth 10000 in
set_option maxHeartbeats 1600000 in
theorem in_any (w : World) (k lo hi : Mm.Bs) : Calls Try.prog 55 #[str k, .agg #[str lo, str hi]] w fun e w' => e = .returned (.bool (Mm.inB k lo hi)) ∧ Below w.heap.size w w' := by
  unfold Mm.inB
  cases h1 : Op.bytesLess k lo with
  | true =>
    go_enter Try.func55, Try.ntmps55
    go_wp2_with (fail)
    go_ret
    exact ⟨rfl, (Below.refl _ _).alloc (Nat.le_refl _) _⟩
  | false =>
    cases hi with
    | nil =>
      go_enter Try.func55, Try.ntmps55
      go_wp2_with (fail)
      go_ret
      exact ⟨rfl, (Below.refl _ _).alloc (Nat.le_refl _) _⟩
    | cons c r =>
      cases h2 : Op.bytesLess k (c :: r) with
      | true =>
        go_enter Try.func55, Try.ntmps55
        go_wp2_with (fail)
        go_ret
        exact ⟨by simp, (Below.refl _ _).alloc (Nat.le_refl _) _⟩
      | false =>
        go_enter Try.func55, Try.ntmps55
        go_wp2_with (fail)
        go_ret
        exact ⟨by simp, (Below.refl _ _).alloc (Nat.le_refl _) _⟩
end Go.Proofs.Ytbdgdigpnfpnhaa.Q.P
