/-
  The walk of ValueOrder, over any two values.
-/
import Derived.Test.YtoaliblndieaiaaUOrdA
import Derived.Test.YtoaliblndieaiaaUOrdB
import Derived.Test.YtoaliblndieaiaaUOrdC
namespace Go.Proofs.Ytoaliblndieaiaa
open Go.RowKit

theorem order_walk (w : World) (a b : Val) (wa : a.wf) (wb : b.wf) :
    Calls Try.prog 4 #[.agg #[.int .u8 a.k, .int .i64 a.n, .string a.t], .agg #[.int .u8 b.k, .int .i64 b.n, .string b.t]] w fun e w' => e = .returned (.bool true) ∧ Below w.heap.size w w' := by
  cases h : a.may
  · exact ord_bad1 w a b wa wb h
  cases h2 : b.may
  · exact ord_bad2 w a b wa wb h h2
  cases n1 : (a.k == 0)
  · cases n2 : (b.k == 0)
    · cases n3 : (a.k != b.k)
      · rcases cmpV_cases a b with e | e | e
        · refine ord_less w a b wa wb e h h2 n1 n2 n3 ?_
          rw [Bool.eq_false_iff]; intro x; have x := val_eq x; subst x
          rw [cmpV_self] at e; cases e
        · exact ord_even w a b wa wb e h h2 n1 n2 n3 (by rw [cmpV_zero e]; exact sameV_refl _)
        · refine ord_more w a b wa wb e h h2 n1 n2 n3 ?_
          rw [Bool.eq_false_iff]; intro x; have x := val_eq x; subst x
          rw [cmpV_self] at e; cases e
      · exact ord_kinds w a b wa wb h h2 n1 n2 n3
    · exact ord_null w a b wa wb h h2 (.inr ⟨n1, n2⟩)
  · exact ord_null w a b wa wb h h2 (.inl n1)
end Go.Proofs.Ytoaliblndieaiaa
