/-
  No cell of these rows narrows 'for every input' (looked for: loops, veiled, ifaces, maps, wideKeys, modest, calm, conditions, laid).
  DERIVED. THE GIVEN ROWS OF THIS SEAT. 12 by the template 'for every input the law returns true; each argument reads behind the call as it read before'; 0 by the template 'total and deterministic' (their statements: YtkhfhdmhhkfehaaTotals.lean).
  GIVEN WITH THE SEED: the statements are not yours to turn. If you find one false, say at which input.
  Laid BY PROGRAM, IN A SANDBOX (cutbox-rows.mjs): the forced cells as the released guide's own fill.sh prints them over the translation df07e80c6924891c… (all of the seat's roots in one cut). By AI agents, Wed Nov 11 2026. No macro, syntax, notation, axiom, sorry.
-/
import Derived.Test.YtkhfhdmhhkfehaaChecked
import GoSem.Claim
import GoSem.ClaimJoined
import GoSem.ClaimMapViews
import Derived.JoinedTies
import Derived.KernelRfl
namespace Go.Proofs.Ytkhfhdmhhkfehaa
/- THE CELL 'sum', in the pinned program and in every row, IS THE sha256 OF THE DUMP (.gsa) THAT YtkhfhdmhhkfehaaProg.lean LOADS. Nothing in Lean hashes anything: it is a label: what it is worth is what the hold of that sum in a sandbox is worth. -/
noncomputable def Try.pinned : Pinned := { name := "ytkhfhdmhhkfehaa", sum := "df07e80c6924891ccc76edac6d0b7263acf0158926f3ed5fda5428a189cc993a", checked := Try.checked }
namespace Rows
def none {H : Type} : Left H := { results := [], args := [] }

/-- 'laws.FnExactDeterminantWhole': WHATEVER THE INPUT: true; the input reads as it did. -/
def fnExactDeterminantWholeSpec : ChangeSpec := { name := "fnExactDeterminantWhole", fn := fun _ => fun
  | [d] => { results := [.lit (.bool true)], args := [d] }
  | _ => none }
def fnExactDeterminantWholeRow : OpenClaim := { program := "ytkhfhdmhhkfehaa", sum := "df07e80c6924891ccc76edac6d0b7263acf0158926f3ed5fda5428a189cc993a", func := "loop.example/g01298/laws.FnExactDeterminantWhole", spec := "fnExactDeterminantWhole", plainKeys := false, apart := false }
def FnExactDeterminantWholeSaid : Prop := fnExactDeterminantWholeRow.holds Try.pinned (OpenSpec.ofChange fnExactDeterminantWholeSpec)

/-- ITS FALSE NEIGHBOUR: 'it returns false'. Refute it at one input. -/
def fnExactDeterminantWholeWrong : ChangeSpec := { name := "fnExactDeterminantWhole", fn := fun _ => fun
  | [d] => { results := [.lit (.bool false)], args := [d] }
  | _ => none }
def FnExactDeterminantWholeWrongFalsely : Prop := fnExactDeterminantWholeRow.holds Try.pinned (OpenSpec.ofChange fnExactDeterminantWholeWrong)

/-- 'laws.FnExactCharacteristicOf': WHATEVER THE INPUT: true; the input reads as it did. -/
def fnExactCharacteristicOfSpec : ChangeSpec := { name := "fnExactCharacteristicOf", fn := fun _ => fun
  | [d] => { results := [.lit (.bool true)], args := [d] }
  | _ => none }
def fnExactCharacteristicOfRow : OpenClaim := { program := "ytkhfhdmhhkfehaa", sum := "df07e80c6924891ccc76edac6d0b7263acf0158926f3ed5fda5428a189cc993a", func := "loop.example/g01298/laws.FnExactCharacteristicOf", spec := "fnExactCharacteristicOf", plainKeys := false, apart := false }
def FnExactCharacteristicOfSaid : Prop := fnExactCharacteristicOfRow.holds Try.pinned (OpenSpec.ofChange fnExactCharacteristicOfSpec)

/-- ITS FALSE NEIGHBOUR: 'it returns false'. Refute it at one input. -/
def fnExactCharacteristicOfWrong : ChangeSpec := { name := "fnExactCharacteristicOf", fn := fun _ => fun
  | [d] => { results := [.lit (.bool false)], args := [d] }
  | _ => none }
def FnExactCharacteristicOfWrongFalsely : Prop := fnExactCharacteristicOfRow.holds Try.pinned (OpenSpec.ofChange fnExactCharacteristicOfWrong)

/-- 'laws.FnExactLaplacianPolynomial': WHATEVER THE INPUT: true; the input reads as it did. -/
def fnExactLaplacianPolynomialSpec : ChangeSpec := { name := "fnExactLaplacianPolynomial", fn := fun _ => fun
  | [d] => { results := [.lit (.bool true)], args := [d] }
  | _ => none }
def fnExactLaplacianPolynomialRow : OpenClaim := { program := "ytkhfhdmhhkfehaa", sum := "df07e80c6924891ccc76edac6d0b7263acf0158926f3ed5fda5428a189cc993a", func := "loop.example/g01298/laws.FnExactLaplacianPolynomial", spec := "fnExactLaplacianPolynomial", plainKeys := false, apart := false }
def FnExactLaplacianPolynomialSaid : Prop := fnExactLaplacianPolynomialRow.holds Try.pinned (OpenSpec.ofChange fnExactLaplacianPolynomialSpec)

/-- ITS FALSE NEIGHBOUR: 'it returns false'. Refute it at one input. -/
def fnExactLaplacianPolynomialWrong : ChangeSpec := { name := "fnExactLaplacianPolynomial", fn := fun _ => fun
  | [d] => { results := [.lit (.bool false)], args := [d] }
  | _ => none }
def FnExactLaplacianPolynomialWrongFalsely : Prop := fnExactLaplacianPolynomialRow.holds Try.pinned (OpenSpec.ofChange fnExactLaplacianPolynomialWrong)

/-- 'laws.FnExactSquarePolynomial': WHATEVER THE INPUT: true; the input reads as it did. -/
def fnExactSquarePolynomialSpec : ChangeSpec := { name := "fnExactSquarePolynomial", fn := fun _ => fun
  | [d] => { results := [.lit (.bool true)], args := [d] }
  | _ => none }
def fnExactSquarePolynomialRow : OpenClaim := { program := "ytkhfhdmhhkfehaa", sum := "df07e80c6924891ccc76edac6d0b7263acf0158926f3ed5fda5428a189cc993a", func := "loop.example/g01298/laws.FnExactSquarePolynomial", spec := "fnExactSquarePolynomial", plainKeys := false, apart := false }
def FnExactSquarePolynomialSaid : Prop := fnExactSquarePolynomialRow.holds Try.pinned (OpenSpec.ofChange fnExactSquarePolynomialSpec)

/-- ITS FALSE NEIGHBOUR: 'it returns false'. Refute it at one input. -/
def fnExactSquarePolynomialWrong : ChangeSpec := { name := "fnExactSquarePolynomial", fn := fun _ => fun
  | [d] => { results := [.lit (.bool false)], args := [d] }
  | _ => none }
def FnExactSquarePolynomialWrongFalsely : Prop := fnExactSquarePolynomialRow.holds Try.pinned (OpenSpec.ofChange fnExactSquarePolynomialWrong)

/-- 'laws.FnExactVertexFactor': WHATEVER THE INPUT: true; the input reads as it did. -/
def fnExactVertexFactorSpec : ChangeSpec := { name := "fnExactVertexFactor", fn := fun _ => fun
  | [d] => { results := [.lit (.bool true)], args := [d] }
  | _ => none }
def fnExactVertexFactorRow : OpenClaim := { program := "ytkhfhdmhhkfehaa", sum := "df07e80c6924891ccc76edac6d0b7263acf0158926f3ed5fda5428a189cc993a", func := "loop.example/g01298/laws.FnExactVertexFactor", spec := "fnExactVertexFactor", plainKeys := false, apart := false }
def FnExactVertexFactorSaid : Prop := fnExactVertexFactorRow.holds Try.pinned (OpenSpec.ofChange fnExactVertexFactorSpec)

/-- ITS FALSE NEIGHBOUR: 'it returns false'. Refute it at one input. -/
def fnExactVertexFactorWrong : ChangeSpec := { name := "fnExactVertexFactor", fn := fun _ => fun
  | [d] => { results := [.lit (.bool false)], args := [d] }
  | _ => none }
def FnExactVertexFactorWrongFalsely : Prop := fnExactVertexFactorRow.holds Try.pinned (OpenSpec.ofChange fnExactVertexFactorWrong)

/-- 'laws.FnExactSignsOfSpectrum': WHATEVER THE INPUT: true; the input reads as it did. -/
def fnExactSignsOfSpectrumSpec : ChangeSpec := { name := "fnExactSignsOfSpectrum", fn := fun _ => fun
  | [d] => { results := [.lit (.bool true)], args := [d] }
  | _ => none }
def fnExactSignsOfSpectrumRow : OpenClaim := { program := "ytkhfhdmhhkfehaa", sum := "df07e80c6924891ccc76edac6d0b7263acf0158926f3ed5fda5428a189cc993a", func := "loop.example/g01298/laws.FnExactSignsOfSpectrum", spec := "fnExactSignsOfSpectrum", unfollowed := true, recurses := true, plainKeys := false, apart := false }
def FnExactSignsOfSpectrumSaid : Prop := fnExactSignsOfSpectrumRow.holds Try.pinned (OpenSpec.ofChange fnExactSignsOfSpectrumSpec)

/-- ITS FALSE NEIGHBOUR: 'it returns false'. Refute it at one input. -/
def fnExactSignsOfSpectrumWrong : ChangeSpec := { name := "fnExactSignsOfSpectrum", fn := fun _ => fun
  | [d] => { results := [.lit (.bool false)], args := [d] }
  | _ => none }
def FnExactSignsOfSpectrumWrongFalsely : Prop := fnExactSignsOfSpectrumRow.holds Try.pinned (OpenSpec.ofChange fnExactSignsOfSpectrumWrong)

/-- 'laws.FnExactIsSymmetricSpectrum': WHATEVER THE INPUT: true; the input reads as it did. -/
def fnExactIsSymmetricSpectrumSpec : ChangeSpec := { name := "fnExactIsSymmetricSpectrum", fn := fun _ => fun
  | [d] => { results := [.lit (.bool true)], args := [d] }
  | _ => none }
def fnExactIsSymmetricSpectrumRow : OpenClaim := { program := "ytkhfhdmhhkfehaa", sum := "df07e80c6924891ccc76edac6d0b7263acf0158926f3ed5fda5428a189cc993a", func := "loop.example/g01298/laws.FnExactIsSymmetricSpectrum", spec := "fnExactIsSymmetricSpectrum", plainKeys := false, apart := false }
def FnExactIsSymmetricSpectrumSaid : Prop := fnExactIsSymmetricSpectrumRow.holds Try.pinned (OpenSpec.ofChange fnExactIsSymmetricSpectrumSpec)

/-- ITS FALSE NEIGHBOUR: 'it returns false'. Refute it at one input. -/
def fnExactIsSymmetricSpectrumWrong : ChangeSpec := { name := "fnExactIsSymmetricSpectrum", fn := fun _ => fun
  | [d] => { results := [.lit (.bool false)], args := [d] }
  | _ => none }
def FnExactIsSymmetricSpectrumWrongFalsely : Prop := fnExactIsSymmetricSpectrumRow.holds Try.pinned (OpenSpec.ofChange fnExactIsSymmetricSpectrumWrong)

/-- 'laws.FnExactEigenAbove': WHATEVER THE INPUT: true; the input reads as it did. -/
def fnExactEigenAboveSpec : ChangeSpec := { name := "fnExactEigenAbove", fn := fun _ => fun
  | [d1, d2] => { results := [.lit (.bool true)], args := [d1, d2] }
  | _ => none }
def fnExactEigenAboveRow : OpenClaim := { program := "ytkhfhdmhhkfehaa", sum := "df07e80c6924891ccc76edac6d0b7263acf0158926f3ed5fda5428a189cc993a", func := "loop.example/g01298/laws.FnExactEigenAbove", spec := "fnExactEigenAbove", unfollowed := true, recurses := true, plainKeys := false, apart := false }
def FnExactEigenAboveSaid : Prop := fnExactEigenAboveRow.holds Try.pinned (OpenSpec.ofChange fnExactEigenAboveSpec)

/-- ITS FALSE NEIGHBOUR: 'it returns false'. Refute it at one input. -/
def fnExactEigenAboveWrong : ChangeSpec := { name := "fnExactEigenAbove", fn := fun _ => fun
  | [d1, d2] => { results := [.lit (.bool false)], args := [d1, d2] }
  | _ => none }
def FnExactEigenAboveWrongFalsely : Prop := fnExactEigenAboveRow.holds Try.pinned (OpenSpec.ofChange fnExactEigenAboveWrong)

/-- 'laws.FnExactEigenAt': WHATEVER THE INPUT: true; the input reads as it did. -/
def fnExactEigenAtSpec : ChangeSpec := { name := "fnExactEigenAt", fn := fun _ => fun
  | [d1, d2] => { results := [.lit (.bool true)], args := [d1, d2] }
  | _ => none }
def fnExactEigenAtRow : OpenClaim := { program := "ytkhfhdmhhkfehaa", sum := "df07e80c6924891ccc76edac6d0b7263acf0158926f3ed5fda5428a189cc993a", func := "loop.example/g01298/laws.FnExactEigenAt", spec := "fnExactEigenAt", unfollowed := true, recurses := true, plainKeys := false, apart := false }
def FnExactEigenAtSaid : Prop := fnExactEigenAtRow.holds Try.pinned (OpenSpec.ofChange fnExactEigenAtSpec)

/-- ITS FALSE NEIGHBOUR: 'it returns false'. Refute it at one input. -/
def fnExactEigenAtWrong : ChangeSpec := { name := "fnExactEigenAt", fn := fun _ => fun
  | [d1, d2] => { results := [.lit (.bool false)], args := [d1, d2] }
  | _ => none }
def FnExactEigenAtWrongFalsely : Prop := fnExactEigenAtRow.holds Try.pinned (OpenSpec.ofChange fnExactEigenAtWrong)

/-- 'laws.FnExactGreatestBelow': WHATEVER THE INPUT: true; the input reads as it did. -/
def fnExactGreatestBelowSpec : ChangeSpec := { name := "fnExactGreatestBelow", fn := fun _ => fun
  | [d] => { results := [.lit (.bool true)], args := [d] }
  | _ => none }
def fnExactGreatestBelowRow : OpenClaim := { program := "ytkhfhdmhhkfehaa", sum := "df07e80c6924891ccc76edac6d0b7263acf0158926f3ed5fda5428a189cc993a", func := "loop.example/g01298/laws.FnExactGreatestBelow", spec := "fnExactGreatestBelow", unfollowed := true, recurses := true, plainKeys := false, apart := false }
def FnExactGreatestBelowSaid : Prop := fnExactGreatestBelowRow.holds Try.pinned (OpenSpec.ofChange fnExactGreatestBelowSpec)

/-- ITS FALSE NEIGHBOUR: 'it returns false'. Refute it at one input. -/
def fnExactGreatestBelowWrong : ChangeSpec := { name := "fnExactGreatestBelow", fn := fun _ => fun
  | [d] => { results := [.lit (.bool false)], args := [d] }
  | _ => none }
def FnExactGreatestBelowWrongFalsely : Prop := fnExactGreatestBelowRow.holds Try.pinned (OpenSpec.ofChange fnExactGreatestBelowWrong)

/-- 'laws.FnExactBartholdiReciprocal': WHATEVER THE INPUT: true; the input reads as it did. -/
def fnExactBartholdiReciprocalSpec : ChangeSpec := { name := "fnExactBartholdiReciprocal", fn := fun _ => fun
  | [d1, d2, d3] => { results := [.lit (.bool true)], args := [d1, d2, d3] }
  | _ => none }
def fnExactBartholdiReciprocalRow : OpenClaim := { program := "ytkhfhdmhhkfehaa", sum := "df07e80c6924891ccc76edac6d0b7263acf0158926f3ed5fda5428a189cc993a", func := "loop.example/g01298/laws.FnExactBartholdiReciprocal", spec := "fnExactBartholdiReciprocal", unfollowed := true, recurses := true, plainKeys := false, apart := false }
def FnExactBartholdiReciprocalSaid : Prop := fnExactBartholdiReciprocalRow.holds Try.pinned (OpenSpec.ofChange fnExactBartholdiReciprocalSpec)

/-- ITS FALSE NEIGHBOUR: 'it returns false'. Refute it at one input. -/
def fnExactBartholdiReciprocalWrong : ChangeSpec := { name := "fnExactBartholdiReciprocal", fn := fun _ => fun
  | [d1, d2, d3] => { results := [.lit (.bool false)], args := [d1, d2, d3] }
  | _ => none }
def FnExactBartholdiReciprocalWrongFalsely : Prop := fnExactBartholdiReciprocalRow.holds Try.pinned (OpenSpec.ofChange fnExactBartholdiReciprocalWrong)

/-- 'laws.FnExactBartholdiFactor': WHATEVER THE INPUT: true; the input reads as it did. -/
def fnExactBartholdiFactorSpec : ChangeSpec := { name := "fnExactBartholdiFactor", fn := fun _ => fun
  | [d1, d2, d3] => { results := [.lit (.bool true)], args := [d1, d2, d3] }
  | _ => none }
def fnExactBartholdiFactorRow : OpenClaim := { program := "ytkhfhdmhhkfehaa", sum := "df07e80c6924891ccc76edac6d0b7263acf0158926f3ed5fda5428a189cc993a", func := "loop.example/g01298/laws.FnExactBartholdiFactor", spec := "fnExactBartholdiFactor", unfollowed := true, recurses := true, plainKeys := false, apart := false }
def FnExactBartholdiFactorSaid : Prop := fnExactBartholdiFactorRow.holds Try.pinned (OpenSpec.ofChange fnExactBartholdiFactorSpec)

/-- ITS FALSE NEIGHBOUR: 'it returns false'. Refute it at one input. -/
def fnExactBartholdiFactorWrong : ChangeSpec := { name := "fnExactBartholdiFactor", fn := fun _ => fun
  | [d1, d2, d3] => { results := [.lit (.bool false)], args := [d1, d2, d3] }
  | _ => none }
def FnExactBartholdiFactorWrongFalsely : Prop := fnExactBartholdiFactorRow.holds Try.pinned (OpenSpec.ofChange fnExactBartholdiFactorWrong)

/- THE SECOND FORM. 'bulk': how many values and letters a reading holds, each counted each time it is reached (what is shared counts as often as it is met; a slice's spare places count too). A statement '..UptoSaid' is the law's where the arguments, and the package variables that the reading takes, are together of bulk at most 1048576: NARROWER than '..Said'. Prove '..Said' where nothing that the law and all that it calls make is longer than what came in: it says more and counts as full. Else prove '..UptoSaid'. A law counts once. -/
mutual
def uptoBulk {H : Type} : DataW H → Nat
  | .lit (.string bytes) => bytes.length + 1
  | .lit _ => 1
  | .nil => 1
  | .ptr d => uptoBulk d + 1
  | .slice elems spare => uptoBulkAll elems + uptoBulkAll spare + 1
  | .agg parts => uptoBulkAll parts + 1
  | .iface _ d => uptoBulk d + 1
  | .map entries => uptoBulkEntries entries + 1
  | .held _ => 1
def uptoBulkAll {H : Type} : List (DataW H) → Nat
  | [] => 0
  | d :: r => uptoBulk d + uptoBulkAll r
def uptoBulkEntries {H : Type} : List (Lit × DataW H) → Nat
  | [] => 0
  | x :: r => uptoBulkEntry x + uptoBulkEntries r
def uptoBulkEntry {H : Type} : Lit × DataW H → Nat
  | (.string bytes, d) => bytes.length + uptoBulk d + 1
  | (_, d) => uptoBulk d + 1
 end
def uptoSmall : (H : Type) → List (DataW H) → Bool := fun _ ds => decide (uptoBulkAll ds ≤ 1048576)
def OpenSpec.upto (s : _root_.Go.ChangeSpec) : _root_.Go.OpenSpec := { _root_.Go.OpenSpec.ofChange s with cond := some uptoSmall }

/-- 'laws.FnExactDeterminantWhole', WHERE WHAT IT READS IS OF BULK AT MOST 1048576: true; the input reads as it did. -/
def fnExactDeterminantWholeUptoRow : OpenClaim := { program := "ytkhfhdmhhkfehaa", sum := "df07e80c6924891ccc76edac6d0b7263acf0158926f3ed5fda5428a189cc993a", func := "loop.example/g01298/laws.FnExactDeterminantWhole", spec := "fnExactDeterminantWhole", plainKeys := false, apart := false, narrowed := true }
def FnExactDeterminantWholeUptoSaid : Prop := fnExactDeterminantWholeUptoRow.holds Try.pinned (OpenSpec.upto fnExactDeterminantWholeSpec)

/-- 'laws.FnExactCharacteristicOf', WHERE WHAT IT READS IS OF BULK AT MOST 1048576: true; the input reads as it did. -/
def fnExactCharacteristicOfUptoRow : OpenClaim := { program := "ytkhfhdmhhkfehaa", sum := "df07e80c6924891ccc76edac6d0b7263acf0158926f3ed5fda5428a189cc993a", func := "loop.example/g01298/laws.FnExactCharacteristicOf", spec := "fnExactCharacteristicOf", plainKeys := false, apart := false, narrowed := true }
def FnExactCharacteristicOfUptoSaid : Prop := fnExactCharacteristicOfUptoRow.holds Try.pinned (OpenSpec.upto fnExactCharacteristicOfSpec)

/-- 'laws.FnExactLaplacianPolynomial', WHERE WHAT IT READS IS OF BULK AT MOST 1048576: true; the input reads as it did. -/
def fnExactLaplacianPolynomialUptoRow : OpenClaim := { program := "ytkhfhdmhhkfehaa", sum := "df07e80c6924891ccc76edac6d0b7263acf0158926f3ed5fda5428a189cc993a", func := "loop.example/g01298/laws.FnExactLaplacianPolynomial", spec := "fnExactLaplacianPolynomial", plainKeys := false, apart := false, narrowed := true }
def FnExactLaplacianPolynomialUptoSaid : Prop := fnExactLaplacianPolynomialUptoRow.holds Try.pinned (OpenSpec.upto fnExactLaplacianPolynomialSpec)

/-- 'laws.FnExactSquarePolynomial', WHERE WHAT IT READS IS OF BULK AT MOST 1048576: true; the input reads as it did. -/
def fnExactSquarePolynomialUptoRow : OpenClaim := { program := "ytkhfhdmhhkfehaa", sum := "df07e80c6924891ccc76edac6d0b7263acf0158926f3ed5fda5428a189cc993a", func := "loop.example/g01298/laws.FnExactSquarePolynomial", spec := "fnExactSquarePolynomial", plainKeys := false, apart := false, narrowed := true }
def FnExactSquarePolynomialUptoSaid : Prop := fnExactSquarePolynomialUptoRow.holds Try.pinned (OpenSpec.upto fnExactSquarePolynomialSpec)

/-- 'laws.FnExactVertexFactor', WHERE WHAT IT READS IS OF BULK AT MOST 1048576: true; the input reads as it did. -/
def fnExactVertexFactorUptoRow : OpenClaim := { program := "ytkhfhdmhhkfehaa", sum := "df07e80c6924891ccc76edac6d0b7263acf0158926f3ed5fda5428a189cc993a", func := "loop.example/g01298/laws.FnExactVertexFactor", spec := "fnExactVertexFactor", plainKeys := false, apart := false, narrowed := true }
def FnExactVertexFactorUptoSaid : Prop := fnExactVertexFactorUptoRow.holds Try.pinned (OpenSpec.upto fnExactVertexFactorSpec)

/-- 'laws.FnExactSignsOfSpectrum', WHERE WHAT IT READS IS OF BULK AT MOST 1048576: true; the input reads as it did. -/
def fnExactSignsOfSpectrumUptoRow : OpenClaim := { program := "ytkhfhdmhhkfehaa", sum := "df07e80c6924891ccc76edac6d0b7263acf0158926f3ed5fda5428a189cc993a", func := "loop.example/g01298/laws.FnExactSignsOfSpectrum", spec := "fnExactSignsOfSpectrum", unfollowed := true, recurses := true, plainKeys := false, apart := false, narrowed := true }
def FnExactSignsOfSpectrumUptoSaid : Prop := fnExactSignsOfSpectrumUptoRow.holds Try.pinned (OpenSpec.upto fnExactSignsOfSpectrumSpec)

/-- 'laws.FnExactIsSymmetricSpectrum', WHERE WHAT IT READS IS OF BULK AT MOST 1048576: true; the input reads as it did. -/
def fnExactIsSymmetricSpectrumUptoRow : OpenClaim := { program := "ytkhfhdmhhkfehaa", sum := "df07e80c6924891ccc76edac6d0b7263acf0158926f3ed5fda5428a189cc993a", func := "loop.example/g01298/laws.FnExactIsSymmetricSpectrum", spec := "fnExactIsSymmetricSpectrum", plainKeys := false, apart := false, narrowed := true }
def FnExactIsSymmetricSpectrumUptoSaid : Prop := fnExactIsSymmetricSpectrumUptoRow.holds Try.pinned (OpenSpec.upto fnExactIsSymmetricSpectrumSpec)

/-- 'laws.FnExactEigenAbove', WHERE WHAT IT READS IS OF BULK AT MOST 1048576: true; the input reads as it did. -/
def fnExactEigenAboveUptoRow : OpenClaim := { program := "ytkhfhdmhhkfehaa", sum := "df07e80c6924891ccc76edac6d0b7263acf0158926f3ed5fda5428a189cc993a", func := "loop.example/g01298/laws.FnExactEigenAbove", spec := "fnExactEigenAbove", unfollowed := true, recurses := true, plainKeys := false, apart := false, narrowed := true }
def FnExactEigenAboveUptoSaid : Prop := fnExactEigenAboveUptoRow.holds Try.pinned (OpenSpec.upto fnExactEigenAboveSpec)

/-- 'laws.FnExactEigenAt', WHERE WHAT IT READS IS OF BULK AT MOST 1048576: true; the input reads as it did. -/
def fnExactEigenAtUptoRow : OpenClaim := { program := "ytkhfhdmhhkfehaa", sum := "df07e80c6924891ccc76edac6d0b7263acf0158926f3ed5fda5428a189cc993a", func := "loop.example/g01298/laws.FnExactEigenAt", spec := "fnExactEigenAt", unfollowed := true, recurses := true, plainKeys := false, apart := false, narrowed := true }
def FnExactEigenAtUptoSaid : Prop := fnExactEigenAtUptoRow.holds Try.pinned (OpenSpec.upto fnExactEigenAtSpec)

/-- 'laws.FnExactGreatestBelow', WHERE WHAT IT READS IS OF BULK AT MOST 1048576: true; the input reads as it did. -/
def fnExactGreatestBelowUptoRow : OpenClaim := { program := "ytkhfhdmhhkfehaa", sum := "df07e80c6924891ccc76edac6d0b7263acf0158926f3ed5fda5428a189cc993a", func := "loop.example/g01298/laws.FnExactGreatestBelow", spec := "fnExactGreatestBelow", unfollowed := true, recurses := true, plainKeys := false, apart := false, narrowed := true }
def FnExactGreatestBelowUptoSaid : Prop := fnExactGreatestBelowUptoRow.holds Try.pinned (OpenSpec.upto fnExactGreatestBelowSpec)

/-- 'laws.FnExactBartholdiReciprocal', WHERE WHAT IT READS IS OF BULK AT MOST 1048576: true; the input reads as it did. -/
def fnExactBartholdiReciprocalUptoRow : OpenClaim := { program := "ytkhfhdmhhkfehaa", sum := "df07e80c6924891ccc76edac6d0b7263acf0158926f3ed5fda5428a189cc993a", func := "loop.example/g01298/laws.FnExactBartholdiReciprocal", spec := "fnExactBartholdiReciprocal", unfollowed := true, recurses := true, plainKeys := false, apart := false, narrowed := true }
def FnExactBartholdiReciprocalUptoSaid : Prop := fnExactBartholdiReciprocalUptoRow.holds Try.pinned (OpenSpec.upto fnExactBartholdiReciprocalSpec)

/-- 'laws.FnExactBartholdiFactor', WHERE WHAT IT READS IS OF BULK AT MOST 1048576: true; the input reads as it did. -/
def fnExactBartholdiFactorUptoRow : OpenClaim := { program := "ytkhfhdmhhkfehaa", sum := "df07e80c6924891ccc76edac6d0b7263acf0158926f3ed5fda5428a189cc993a", func := "loop.example/g01298/laws.FnExactBartholdiFactor", spec := "fnExactBartholdiFactor", unfollowed := true, recurses := true, plainKeys := false, apart := false, narrowed := true }
def FnExactBartholdiFactorUptoSaid : Prop := fnExactBartholdiFactorUptoRow.holds Try.pinned (OpenSpec.upto fnExactBartholdiFactorSpec)

end Rows
end Go.Proofs.Ytkhfhdmhhkfehaa
