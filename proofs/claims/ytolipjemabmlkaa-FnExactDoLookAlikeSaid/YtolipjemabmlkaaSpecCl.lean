/- Closed numbers of the model. -/
import Derived.Test.YtolipjemabmlkaaSpecRows
import Derived.Test.YtolipjemabmlkaaSpecLen
import Derived.Test.YtolipjemabmlkaaProd
set_option linter.unusedSimpArgs false
set_option linter.unusedVariables false
namespace Go.Proofs.Ytolipjemabmlkaa
open Go.RowKit

end Go.Proofs.Ytolipjemabmlkaa
