/- The program's and the model's characteristic polynomials of rows. -/
import Derived.Test.YtmhnckjcpdnabaaChP
import Derived.Test.YtmhnckjcpdnabaaBk
import Derived.Deep.RegionHeld3
set_option linter.unusedSimpArgs false
set_option linter.unusedVariables false
set_option maxRecDepth 100000
namespace Go.Proofs.Ytmhnckjcpdnabaa
open Go.RowKit

end Go.Proofs.Ytmhnckjcpdnabaa
