/-
  sort.Search as Visible asks it: the first place from which the answer is yes.
-/
import Derived.Test.YtanhmebjfockjaaBOwn
import Derived.Laws.Bits64
import Derived.Laws.BitsAllLaws
namespace Go.Proofs.Ytanhmebjfockjaa
open Go.RowKit

end Go.Proofs.Ytanhmebjfockjaa
