/- Codes of a graph and a length, by the model. -/
import Derived.Test.YtolipjemabmlkaaSpecStc
set_option linter.unusedSimpArgs false
set_option linter.unusedVariables false
namespace Go.Proofs.Ytolipjemabmlkaa
open Go.RowKit

end Go.Proofs.Ytolipjemabmlkaa
