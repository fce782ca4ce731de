/- LaplacianRows, both sides. -/
import Derived.Test.YtolipjemabmlkaaSpecLap
set_option linter.unusedSimpArgs false
set_option linter.unusedVariables false
namespace Go.Proofs.Ytolipjemabmlkaa
open Go.RowKit

end Go.Proofs.Ytolipjemabmlkaa
