/-
  The document's own check and order of values: the same as the program's.
-/
import Derived.Test.YtjddhakaebkkeaaDoorUCheck
import Derived.Test.YtjddhakaebkkeaaDoorUOrd
namespace Go.Proofs.YtjddhakaebkkeaaDoor
open Go.RowKit

theorem one_facts (a b : Int) (c : ByteArray) (a' b' : Int) (c' : ByteArray) :
    (a < a' → cmpV ⟨a, b, c⟩ ⟨a', b', c'⟩ = -1) ∧ (a = a' → b < b' → cmpV ⟨a, b, c⟩ ⟨a', b', c'⟩ = -1) ∧ (a = a' → b = b' → Op.bytesLess c.toList c'.toList = true → cmpV ⟨a, b, c⟩ ⟨a', b', c'⟩ = -1)
    ∧ (a = a' → b = b' → c.toList = c'.toList → cmpV ⟨a, b, c⟩ ⟨a', b', c'⟩ = 0) ∧ (a' < a → cmpV ⟨a, b, c⟩ ⟨a', b', c'⟩ = 1) ∧ (a = a' → b' < b → cmpV ⟨a, b, c⟩ ⟨a', b', c'⟩ = 1)
    ∧ (a = a' → b = b' → Op.bytesLess c.toList c'.toList = false → ¬ c.toList = c'.toList → cmpV ⟨a, b, c⟩ ⟨a', b', c'⟩ = 1) := by
  refine ⟨?_, ?_, ?_, ?_, ?_, ?_, ?_⟩
  · intro h; simp [cmpV, or3, cmpI, h]
  · intro h1 h; simp [cmpV, or3, cmpI, h1, h]
  · intro h1 h2 h; simp [cmpV, or3, cmpI, cmpS, h1, h2, h]
  · intro h1 h2 h; simp [cmpV, or3, cmpI, cmpS, h1, h2, h, bytesLess_irrefl]
  · intro h; have : ¬ a < a' := by omega
    simp [cmpV, or3, cmpI, h, this]
  · intro h1 h; have : ¬ b < b' := by omega
    simp [cmpV, or3, cmpI, h1, h, this]
  · intro h1 h2 h3 h; simp [cmpV, or3, cmpI, cmpS, h1, h2, h3, h]

end Go.Proofs.YtjddhakaebkkeaaDoor
