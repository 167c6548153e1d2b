/-
  The document's own small calls of layer 12: how many values an operation takes, Bools and numbers, an Int's magnitude, what decides.
-/
import Derived.Test.YtjddhakaebkkeaaDoorURef1
import Derived.Test.YtjddhakaebkkeaaDoorULaw
import Derived.Laws.Bits64
namespace Go.Proofs.YtjddhakaebkkeaaDoor
open Go.RowKit
attribute [local go_sem ↓] Go.wp_at_zero Go.wp_at_succ

end Go.Proofs.YtjddhakaebkkeaaDoor
