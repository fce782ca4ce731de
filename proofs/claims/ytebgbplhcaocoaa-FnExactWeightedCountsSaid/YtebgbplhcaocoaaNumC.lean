/- A prime, a graph and a number modulo it: the code of both sides. -/
import Derived.Test.YtebgbplhcaocoaaPrimeB
import Derived.Test.YtebgbplhcaocoaaCoreB
set_option linter.unusedSimpArgs false
set_option linter.unusedVariables false
namespace Go.Proofs.Ytebgbplhcaocoaa
open Go.RowKit

def numCode (p s : Int) (xss : List (List Int)) (t : Int) : Int := if grB s xss then (if primeB p then (if inR t p then 0 else 2) else 2) else 1

end Go.Proofs.Ytebgbplhcaocoaa
