/-
  No cell of these rows narrows 'for every input' (looked for: loops, veiled, ifaces, maps, wideKeys, modest, calm, conditions, laid).
  DERIVED. THE GIVEN ROWS OF THIS SEAT. 5 by the template 'for every input the law returns true; each argument reads behind the call as it read before'; 0 by the template 'total and deterministic' (their statements: YtmccajkndjoooaaTotals.lean).
  GIVEN WITH THE SEED: the statements are not yours to turn. If you find one false, say at which input.
  Laid BY PROGRAM, IN A SANDBOX (cutbox-rows.mjs): the forced cells as the released guide's own fill.sh prints them over the translation e02d9ad550c01019… (all of the seat's roots in one cut). By AI agents, Wed Nov 11 2026. No macro, syntax, notation, axiom, sorry.
-/
import Derived.Test.YtmccajkndjoooaaChecked
import GoSem.Claim
import GoSem.ClaimJoined
import GoSem.ClaimMapViews
import Derived.JoinedTies
import Derived.KernelRfl
namespace Go.Proofs.Ytmccajkndjoooaa
/- THE CELL 'sum', in the pinned program and in every row, IS THE sha256 OF THE DUMP (.gsa) THAT YtmccajkndjoooaaProg.lean LOADS. Nothing in Lean hashes anything: it is a label: what it is worth is what the hold of that sum in a sandbox is worth. -/
noncomputable def Try.pinned : Pinned := { name := "ytmccajkndjoooaa", sum := "e02d9ad550c01019e697dc553a9406fcd79ba2bf883f4975e8e16421e1613fda", checked := Try.checked }
namespace Rows
def none {H : Type} : Left H := { results := [], args := [] }

/-- 'laws.FnExactIsWhole': WHATEVER THE INPUT: true; the input reads as it did. -/
def fnExactIsWholeSpec : ChangeSpec := { name := "fnExactIsWhole", fn := fun _ => fun
  | [d] => { results := [.lit (.bool true)], args := [d] }
  | _ => none }
def fnExactIsWholeRow : OpenClaim := { program := "ytmccajkndjoooaa", sum := "e02d9ad550c01019e697dc553a9406fcd79ba2bf883f4975e8e16421e1613fda", func := "loop.example/g01298/laws.FnExactIsWhole", spec := "fnExactIsWhole", apart := false }
def FnExactIsWholeSaid : Prop := fnExactIsWholeRow.holds Try.pinned (OpenSpec.ofChange fnExactIsWholeSpec)

/-- ITS FALSE NEIGHBOUR: 'it returns false'. Refute it at one input. -/
def fnExactIsWholeWrong : ChangeSpec := { name := "fnExactIsWhole", fn := fun _ => fun
  | [d] => { results := [.lit (.bool false)], args := [d] }
  | _ => none }
def FnExactIsWholeWrongFalsely : Prop := fnExactIsWholeRow.holds Try.pinned (OpenSpec.ofChange fnExactIsWholeWrong)

/-- 'laws.FnExactAddWhole': WHATEVER THE INPUT: true; the input reads as it did. -/
def fnExactAddWholeSpec : ChangeSpec := { name := "fnExactAddWhole", fn := fun _ => fun
  | [d1, d2, d3] => { results := [.lit (.bool true)], args := [d1, d2, d3] }
  | _ => none }
def fnExactAddWholeRow : OpenClaim := { program := "ytmccajkndjoooaa", sum := "e02d9ad550c01019e697dc553a9406fcd79ba2bf883f4975e8e16421e1613fda", func := "loop.example/g01298/laws.FnExactAddWhole", spec := "fnExactAddWhole", unfollowed := true, recurses := true, apart := false }
def FnExactAddWholeSaid : Prop := fnExactAddWholeRow.holds Try.pinned (OpenSpec.ofChange fnExactAddWholeSpec)

/-- ITS FALSE NEIGHBOUR: 'it returns false'. Refute it at one input. -/
def fnExactAddWholeWrong : ChangeSpec := { name := "fnExactAddWhole", fn := fun _ => fun
  | [d1, d2, d3] => { results := [.lit (.bool false)], args := [d1, d2, d3] }
  | _ => none }
def FnExactAddWholeWrongFalsely : Prop := fnExactAddWholeRow.holds Try.pinned (OpenSpec.ofChange fnExactAddWholeWrong)

/-- 'laws.FnExactMultiplyWhole': WHATEVER THE INPUT: true; the input reads as it did. -/
def fnExactMultiplyWholeSpec : ChangeSpec := { name := "fnExactMultiplyWhole", fn := fun _ => fun
  | [d1, d2] => { results := [.lit (.bool true)], args := [d1, d2] }
  | _ => none }
def fnExactMultiplyWholeRow : OpenClaim := { program := "ytmccajkndjoooaa", sum := "e02d9ad550c01019e697dc553a9406fcd79ba2bf883f4975e8e16421e1613fda", func := "loop.example/g01298/laws.FnExactMultiplyWhole", spec := "fnExactMultiplyWhole", unfollowed := true, recurses := true, apart := false }
def FnExactMultiplyWholeSaid : Prop := fnExactMultiplyWholeRow.holds Try.pinned (OpenSpec.ofChange fnExactMultiplyWholeSpec)

/-- ITS FALSE NEIGHBOUR: 'it returns false'. Refute it at one input. -/
def fnExactMultiplyWholeWrong : ChangeSpec := { name := "fnExactMultiplyWhole", fn := fun _ => fun
  | [d1, d2] => { results := [.lit (.bool false)], args := [d1, d2] }
  | _ => none }
def FnExactMultiplyWholeWrongFalsely : Prop := fnExactMultiplyWholeRow.holds Try.pinned (OpenSpec.ofChange fnExactMultiplyWholeWrong)

/-- 'laws.FnExactValueOfWhole': WHATEVER THE INPUT: true; the input reads as it did. -/
def fnExactValueOfWholeSpec : ChangeSpec := { name := "fnExactValueOfWhole", fn := fun _ => fun
  | [d1, d2] => { results := [.lit (.bool true)], args := [d1, d2] }
  | _ => none }
def fnExactValueOfWholeRow : OpenClaim := { program := "ytmccajkndjoooaa", sum := "e02d9ad550c01019e697dc553a9406fcd79ba2bf883f4975e8e16421e1613fda", func := "loop.example/g01298/laws.FnExactValueOfWhole", spec := "fnExactValueOfWhole", unfollowed := true, recurses := true, apart := false }
def FnExactValueOfWholeSaid : Prop := fnExactValueOfWholeRow.holds Try.pinned (OpenSpec.ofChange fnExactValueOfWholeSpec)

/-- ITS FALSE NEIGHBOUR: 'it returns false'. Refute it at one input. -/
def fnExactValueOfWholeWrong : ChangeSpec := { name := "fnExactValueOfWhole", fn := fun _ => fun
  | [d1, d2] => { results := [.lit (.bool false)], args := [d1, d2] }
  | _ => none }
def FnExactValueOfWholeWrongFalsely : Prop := fnExactValueOfWholeRow.holds Try.pinned (OpenSpec.ofChange fnExactValueOfWholeWrong)

/-- 'laws.FnExactDerivativeOfWhole': WHATEVER THE INPUT: true; the input reads as it did. -/
def fnExactDerivativeOfWholeSpec : ChangeSpec := { name := "fnExactDerivativeOfWhole", fn := fun _ => fun
  | [d] => { results := [.lit (.bool true)], args := [d] }
  | _ => none }
def fnExactDerivativeOfWholeRow : OpenClaim := { program := "ytmccajkndjoooaa", sum := "e02d9ad550c01019e697dc553a9406fcd79ba2bf883f4975e8e16421e1613fda", func := "loop.example/g01298/laws.FnExactDerivativeOfWhole", spec := "fnExactDerivativeOfWhole", apart := false }
def FnExactDerivativeOfWholeSaid : Prop := fnExactDerivativeOfWholeRow.holds Try.pinned (OpenSpec.ofChange fnExactDerivativeOfWholeSpec)

/-- ITS FALSE NEIGHBOUR: 'it returns false'. Refute it at one input. -/
def fnExactDerivativeOfWholeWrong : ChangeSpec := { name := "fnExactDerivativeOfWhole", fn := fun _ => fun
  | [d] => { results := [.lit (.bool false)], args := [d] }
  | _ => none }
def FnExactDerivativeOfWholeWrongFalsely : Prop := fnExactDerivativeOfWholeRow.holds Try.pinned (OpenSpec.ofChange fnExactDerivativeOfWholeWrong)

/- THE SECOND FORM. 'bulk': how many values and letters a reading holds, each counted each time it is reached (what is shared counts as often as it is met; a slice's spare places count too). A statement '..UptoSaid' is the law's where the arguments, and the package variables that the reading takes, are together of bulk at most 1048576: NARROWER than '..Said'. Prove '..Said' where nothing that the law and all that it calls make is longer than what came in: it says more and counts as full. Else prove '..UptoSaid'. A law counts once. -/
mutual
def uptoBulk {H : Type} : DataW H → Nat
  | .lit (.string bytes) => bytes.length + 1
  | .lit _ => 1
  | .nil => 1
  | .ptr d => uptoBulk d + 1
  | .slice elems spare => uptoBulkAll elems + uptoBulkAll spare + 1
  | .agg parts => uptoBulkAll parts + 1
  | .iface _ d => uptoBulk d + 1
  | .map entries => uptoBulkEntries entries + 1
  | .held _ => 1
def uptoBulkAll {H : Type} : List (DataW H) → Nat
  | [] => 0
  | d :: r => uptoBulk d + uptoBulkAll r
def uptoBulkEntries {H : Type} : List (Lit × DataW H) → Nat
  | [] => 0
  | x :: r => uptoBulkEntry x + uptoBulkEntries r
def uptoBulkEntry {H : Type} : Lit × DataW H → Nat
  | (.string bytes, d) => bytes.length + uptoBulk d + 1
  | (_, d) => uptoBulk d + 1
 end
def uptoSmall : (H : Type) → List (DataW H) → Bool := fun _ ds => decide (uptoBulkAll ds ≤ 1048576)
def OpenSpec.upto (s : _root_.Go.ChangeSpec) : _root_.Go.OpenSpec := { _root_.Go.OpenSpec.ofChange s with cond := some uptoSmall }

/-- 'laws.FnExactIsWhole', WHERE WHAT IT READS IS OF BULK AT MOST 1048576: true; the input reads as it did. -/
def fnExactIsWholeUptoRow : OpenClaim := { program := "ytmccajkndjoooaa", sum := "e02d9ad550c01019e697dc553a9406fcd79ba2bf883f4975e8e16421e1613fda", func := "loop.example/g01298/laws.FnExactIsWhole", spec := "fnExactIsWhole", apart := false, narrowed := true }
def FnExactIsWholeUptoSaid : Prop := fnExactIsWholeUptoRow.holds Try.pinned (OpenSpec.upto fnExactIsWholeSpec)

/-- 'laws.FnExactAddWhole', WHERE WHAT IT READS IS OF BULK AT MOST 1048576: true; the input reads as it did. -/
def fnExactAddWholeUptoRow : OpenClaim := { program := "ytmccajkndjoooaa", sum := "e02d9ad550c01019e697dc553a9406fcd79ba2bf883f4975e8e16421e1613fda", func := "loop.example/g01298/laws.FnExactAddWhole", spec := "fnExactAddWhole", unfollowed := true, recurses := true, apart := false, narrowed := true }
def FnExactAddWholeUptoSaid : Prop := fnExactAddWholeUptoRow.holds Try.pinned (OpenSpec.upto fnExactAddWholeSpec)

/-- 'laws.FnExactMultiplyWhole', WHERE WHAT IT READS IS OF BULK AT MOST 1048576: true; the input reads as it did. -/
def fnExactMultiplyWholeUptoRow : OpenClaim := { program := "ytmccajkndjoooaa", sum := "e02d9ad550c01019e697dc553a9406fcd79ba2bf883f4975e8e16421e1613fda", func := "loop.example/g01298/laws.FnExactMultiplyWhole", spec := "fnExactMultiplyWhole", unfollowed := true, recurses := true, apart := false, narrowed := true }
def FnExactMultiplyWholeUptoSaid : Prop := fnExactMultiplyWholeUptoRow.holds Try.pinned (OpenSpec.upto fnExactMultiplyWholeSpec)

/-- 'laws.FnExactValueOfWhole', WHERE WHAT IT READS IS OF BULK AT MOST 1048576: true; the input reads as it did. -/
def fnExactValueOfWholeUptoRow : OpenClaim := { program := "ytmccajkndjoooaa", sum := "e02d9ad550c01019e697dc553a9406fcd79ba2bf883f4975e8e16421e1613fda", func := "loop.example/g01298/laws.FnExactValueOfWhole", spec := "fnExactValueOfWhole", unfollowed := true, recurses := true, apart := false, narrowed := true }
def FnExactValueOfWholeUptoSaid : Prop := fnExactValueOfWholeUptoRow.holds Try.pinned (OpenSpec.upto fnExactValueOfWholeSpec)

/-- 'laws.FnExactDerivativeOfWhole', WHERE WHAT IT READS IS OF BULK AT MOST 1048576: true; the input reads as it did. -/
def fnExactDerivativeOfWholeUptoRow : OpenClaim := { program := "ytmccajkndjoooaa", sum := "e02d9ad550c01019e697dc553a9406fcd79ba2bf883f4975e8e16421e1613fda", func := "loop.example/g01298/laws.FnExactDerivativeOfWhole", spec := "fnExactDerivativeOfWhole", apart := false, narrowed := true }
def FnExactDerivativeOfWholeUptoSaid : Prop := fnExactDerivativeOfWholeUptoRow.holds Try.pinned (OpenSpec.upto fnExactDerivativeOfWholeSpec)

end Rows
end Go.Proofs.Ytmccajkndjoooaa
