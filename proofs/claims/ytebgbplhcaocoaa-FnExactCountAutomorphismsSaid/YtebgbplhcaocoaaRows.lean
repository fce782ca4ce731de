/-
  No cell of these rows narrows 'for every input' (looked for: loops, veiled, ifaces, maps, wideKeys, modest, calm, conditions, laid).
  DERIVED. THE GIVEN ROWS OF THIS SEAT. 14 by the template 'for every input the law returns true; each argument reads behind the call as it read before'; 0 by the template 'total and deterministic' (their statements: YtebgbplhcaocoaaTotals.lean).
  GIVEN WITH THE SEED: the statements are not yours to turn. If you find one false, say at which input.
  Laid BY PROGRAM, IN A SANDBOX (cutbox-rows.mjs): the forced cells as the released guide's own fill.sh prints them over the translation 5e71d84b4e91c79b… (all of the seat's roots in one cut). By AI agents, Wed Nov 11 2026. No macro, syntax, notation, axiom, sorry.
-/
import Derived.Test.YtebgbplhcaocoaaChecked
import GoSem.Claim
import GoSem.ClaimJoined
import GoSem.ClaimMapViews
import Derived.JoinedTies
import Derived.KernelRfl
namespace Go.Proofs.Ytebgbplhcaocoaa
/- THE CELL 'sum', in the pinned program and in every row, IS THE sha256 OF THE DUMP (.gsa) THAT YtebgbplhcaocoaaProg.lean LOADS. Nothing in Lean hashes anything: it is a label: what it is worth is what the hold of that sum in a sandbox is worth. -/
noncomputable def Try.pinned : Pinned := { name := "ytebgbplhcaocoaa", sum := "5e71d84b4e91c79b8c7bc02e66f2ebcec84459889e6bcf4eacb1ed1099e6345f", checked := Try.checked }
namespace Rows
def none {H : Type} : Left H := { results := [], args := [] }

/-- 'laws.FnExactEdgeRows': WHATEVER THE INPUT: true; the input reads as it did. -/
def fnExactEdgeRowsSpec : ChangeSpec := { name := "fnExactEdgeRows", fn := fun _ => fun
  | [d] => { results := [.lit (.bool true)], args := [d] }
  | _ => none }
def fnExactEdgeRowsRow : OpenClaim := { program := "ytebgbplhcaocoaa", sum := "5e71d84b4e91c79b8c7bc02e66f2ebcec84459889e6bcf4eacb1ed1099e6345f", func := "loop.example/g01298/laws.FnExactEdgeRows", spec := "fnExactEdgeRows", plainKeys := false, apart := false }
def FnExactEdgeRowsSaid : Prop := fnExactEdgeRowsRow.holds Try.pinned (OpenSpec.ofChange fnExactEdgeRowsSpec)

/-- ITS FALSE NEIGHBOUR: 'it returns false'. Refute it at one input. -/
def fnExactEdgeRowsWrong : ChangeSpec := { name := "fnExactEdgeRows", fn := fun _ => fun
  | [d] => { results := [.lit (.bool false)], args := [d] }
  | _ => none }
def FnExactEdgeRowsWrongFalsely : Prop := fnExactEdgeRowsRow.holds Try.pinned (OpenSpec.ofChange fnExactEdgeRowsWrong)

/-- 'laws.FnExactDegreeProduct': WHATEVER THE INPUT: true; the input reads as it did. -/
def fnExactDegreeProductSpec : ChangeSpec := { name := "fnExactDegreeProduct", fn := fun _ => fun
  | [d] => { results := [.lit (.bool true)], args := [d] }
  | _ => none }
def fnExactDegreeProductRow : OpenClaim := { program := "ytebgbplhcaocoaa", sum := "5e71d84b4e91c79b8c7bc02e66f2ebcec84459889e6bcf4eacb1ed1099e6345f", func := "loop.example/g01298/laws.FnExactDegreeProduct", spec := "fnExactDegreeProduct", plainKeys := false, apart := false }
def FnExactDegreeProductSaid : Prop := fnExactDegreeProductRow.holds Try.pinned (OpenSpec.ofChange fnExactDegreeProductSpec)

/-- ITS FALSE NEIGHBOUR: 'it returns false'. Refute it at one input. -/
def fnExactDegreeProductWrong : ChangeSpec := { name := "fnExactDegreeProduct", fn := fun _ => fun
  | [d] => { results := [.lit (.bool false)], args := [d] }
  | _ => none }
def FnExactDegreeProductWrongFalsely : Prop := fnExactDegreeProductRow.holds Try.pinned (OpenSpec.ofChange fnExactDegreeProductWrong)

/-- 'laws.FnExactFollowersOf': WHATEVER THE INPUT: true; the input reads as it did. -/
def fnExactFollowersOfSpec : ChangeSpec := { name := "fnExactFollowersOf", fn := fun _ => fun
  | [d1, d2] => { results := [.lit (.bool true)], args := [d1, d2] }
  | _ => none }
def fnExactFollowersOfRow : OpenClaim := { program := "ytebgbplhcaocoaa", sum := "5e71d84b4e91c79b8c7bc02e66f2ebcec84459889e6bcf4eacb1ed1099e6345f", func := "loop.example/g01298/laws.FnExactFollowersOf", spec := "fnExactFollowersOf", plainKeys := false, apart := false }
def FnExactFollowersOfSaid : Prop := fnExactFollowersOfRow.holds Try.pinned (OpenSpec.ofChange fnExactFollowersOfSpec)

/-- ITS FALSE NEIGHBOUR: 'it returns false'. Refute it at one input. -/
def fnExactFollowersOfWrong : ChangeSpec := { name := "fnExactFollowersOf", fn := fun _ => fun
  | [d1, d2] => { results := [.lit (.bool false)], args := [d1, d2] }
  | _ => none }
def FnExactFollowersOfWrongFalsely : Prop := fnExactFollowersOfRow.holds Try.pinned (OpenSpec.ofChange fnExactFollowersOfWrong)

/-- 'laws.FnExactPrimesOfSums': WHATEVER THE INPUT: true; the input reads as it did. -/
def fnExactPrimesOfSumsSpec : ChangeSpec := { name := "fnExactPrimesOfSums", fn := fun _ => fun
  | [d] => { results := [.lit (.bool true)], args := [d] }
  | _ => none }
def fnExactPrimesOfSumsRow : OpenClaim := { program := "ytebgbplhcaocoaa", sum := "5e71d84b4e91c79b8c7bc02e66f2ebcec84459889e6bcf4eacb1ed1099e6345f", func := "loop.example/g01298/laws.FnExactPrimesOfSums", spec := "fnExactPrimesOfSums", unfollowed := true, recurses := true, plainKeys := false, apart := false }
def FnExactPrimesOfSumsSaid : Prop := fnExactPrimesOfSumsRow.holds Try.pinned (OpenSpec.ofChange fnExactPrimesOfSumsSpec)

/-- ITS FALSE NEIGHBOUR: 'it returns false'. Refute it at one input. -/
def fnExactPrimesOfSumsWrong : ChangeSpec := { name := "fnExactPrimesOfSums", fn := fun _ => fun
  | [d] => { results := [.lit (.bool false)], args := [d] }
  | _ => none }
def FnExactPrimesOfSumsWrongFalsely : Prop := fnExactPrimesOfSumsRow.holds Try.pinned (OpenSpec.ofChange fnExactPrimesOfSumsWrong)

/-- 'laws.FnExactPolynomialOfSums': WHATEVER THE INPUT: true; the input reads as it did. -/
def fnExactPolynomialOfSumsSpec : ChangeSpec := { name := "fnExactPolynomialOfSums", fn := fun _ => fun
  | [d] => { results := [.lit (.bool true)], args := [d] }
  | _ => none }
def fnExactPolynomialOfSumsRow : OpenClaim := { program := "ytebgbplhcaocoaa", sum := "5e71d84b4e91c79b8c7bc02e66f2ebcec84459889e6bcf4eacb1ed1099e6345f", func := "loop.example/g01298/laws.FnExactPolynomialOfSums", spec := "fnExactPolynomialOfSums", unfollowed := true, recurses := true, plainKeys := false, apart := false }
def FnExactPolynomialOfSumsSaid : Prop := fnExactPolynomialOfSumsRow.holds Try.pinned (OpenSpec.ofChange fnExactPolynomialOfSumsSpec)

/-- ITS FALSE NEIGHBOUR: 'it returns false'. Refute it at one input. -/
def fnExactPolynomialOfSumsWrong : ChangeSpec := { name := "fnExactPolynomialOfSums", fn := fun _ => fun
  | [d] => { results := [.lit (.bool false)], args := [d] }
  | _ => none }
def FnExactPolynomialOfSumsWrongFalsely : Prop := fnExactPolynomialOfSumsRow.holds Try.pinned (OpenSpec.ofChange fnExactPolynomialOfSumsWrong)

/-- 'laws.FnExactLineGraph': WHATEVER THE INPUT: true; the input reads as it did. -/
def fnExactLineGraphSpec : ChangeSpec := { name := "fnExactLineGraph", fn := fun _ => fun
  | [d] => { results := [.lit (.bool true)], args := [d] }
  | _ => none }
def fnExactLineGraphRow : OpenClaim := { program := "ytebgbplhcaocoaa", sum := "5e71d84b4e91c79b8c7bc02e66f2ebcec84459889e6bcf4eacb1ed1099e6345f", func := "loop.example/g01298/laws.FnExactLineGraph", spec := "fnExactLineGraph", unfollowed := true, recurses := true, plainKeys := false, apart := false }
def FnExactLineGraphSaid : Prop := fnExactLineGraphRow.holds Try.pinned (OpenSpec.ofChange fnExactLineGraphSpec)

/-- ITS FALSE NEIGHBOUR: 'it returns false'. Refute it at one input. -/
def fnExactLineGraphWrong : ChangeSpec := { name := "fnExactLineGraph", fn := fun _ => fun
  | [d] => { results := [.lit (.bool false)], args := [d] }
  | _ => none }
def FnExactLineGraphWrongFalsely : Prop := fnExactLineGraphRow.holds Try.pinned (OpenSpec.ofChange fnExactLineGraphWrong)

/-- 'laws.FnExactLeastCode': WHATEVER THE INPUT: true; the input reads as it did. -/
def fnExactLeastCodeSpec : ChangeSpec := { name := "fnExactLeastCode", fn := fun _ => fun
  | [d] => { results := [.lit (.bool true)], args := [d] }
  | _ => none }
def fnExactLeastCodeRow : OpenClaim := { program := "ytebgbplhcaocoaa", sum := "5e71d84b4e91c79b8c7bc02e66f2ebcec84459889e6bcf4eacb1ed1099e6345f", func := "loop.example/g01298/laws.FnExactLeastCode", spec := "fnExactLeastCode", unfollowed := true, recurses := true, plainKeys := false, apart := false }
def FnExactLeastCodeSaid : Prop := fnExactLeastCodeRow.holds Try.pinned (OpenSpec.ofChange fnExactLeastCodeSpec)

/-- ITS FALSE NEIGHBOUR: 'it returns false'. Refute it at one input. -/
def fnExactLeastCodeWrong : ChangeSpec := { name := "fnExactLeastCode", fn := fun _ => fun
  | [d] => { results := [.lit (.bool false)], args := [d] }
  | _ => none }
def FnExactLeastCodeWrongFalsely : Prop := fnExactLeastCodeRow.holds Try.pinned (OpenSpec.ofChange fnExactLeastCodeWrong)

/-- 'laws.FnExactCountAutomorphisms': WHATEVER THE INPUT: true; the input reads as it did. -/
def fnExactCountAutomorphismsSpec : ChangeSpec := { name := "fnExactCountAutomorphisms", fn := fun _ => fun
  | [d] => { results := [.lit (.bool true)], args := [d] }
  | _ => none }
def fnExactCountAutomorphismsRow : OpenClaim := { program := "ytebgbplhcaocoaa", sum := "5e71d84b4e91c79b8c7bc02e66f2ebcec84459889e6bcf4eacb1ed1099e6345f", func := "loop.example/g01298/laws.FnExactCountAutomorphisms", spec := "fnExactCountAutomorphisms", unfollowed := true, recurses := true, plainKeys := false, apart := false }
def FnExactCountAutomorphismsSaid : Prop := fnExactCountAutomorphismsRow.holds Try.pinned (OpenSpec.ofChange fnExactCountAutomorphismsSpec)

/-- ITS FALSE NEIGHBOUR: 'it returns false'. Refute it at one input. -/
def fnExactCountAutomorphismsWrong : ChangeSpec := { name := "fnExactCountAutomorphisms", fn := fun _ => fun
  | [d] => { results := [.lit (.bool false)], args := [d] }
  | _ => none }
def FnExactCountAutomorphismsWrongFalsely : Prop := fnExactCountAutomorphismsRow.holds Try.pinned (OpenSpec.ofChange fnExactCountAutomorphismsWrong)

/-- 'laws.FnExactEdgeValue': WHATEVER THE INPUT: true; the input reads as it did. -/
def fnExactEdgeValueSpec : ChangeSpec := { name := "fnExactEdgeValue", fn := fun _ => fun
  | [d1, d2, d3] => { results := [.lit (.bool true)], args := [d1, d2, d3] }
  | _ => none }
def fnExactEdgeValueRow : OpenClaim := { program := "ytebgbplhcaocoaa", sum := "5e71d84b4e91c79b8c7bc02e66f2ebcec84459889e6bcf4eacb1ed1099e6345f", func := "loop.example/g01298/laws.FnExactEdgeValue", spec := "fnExactEdgeValue", unfollowed := true, recurses := true, plainKeys := false, apart := false }
def FnExactEdgeValueSaid : Prop := fnExactEdgeValueRow.holds Try.pinned (OpenSpec.ofChange fnExactEdgeValueSpec)

/-- ITS FALSE NEIGHBOUR: 'it returns false'. Refute it at one input. -/
def fnExactEdgeValueWrong : ChangeSpec := { name := "fnExactEdgeValue", fn := fun _ => fun
  | [d1, d2, d3] => { results := [.lit (.bool false)], args := [d1, d2, d3] }
  | _ => none }
def FnExactEdgeValueWrongFalsely : Prop := fnExactEdgeValueRow.holds Try.pinned (OpenSpec.ofChange fnExactEdgeValueWrong)

/-- 'laws.FnExactRootsModulo': WHATEVER THE INPUT: true; the input reads as it did. -/
def fnExactRootsModuloSpec : ChangeSpec := { name := "fnExactRootsModulo", fn := fun _ => fun
  | [d1, d2] => { results := [.lit (.bool true)], args := [d1, d2] }
  | _ => none }
def fnExactRootsModuloRow : OpenClaim := { program := "ytebgbplhcaocoaa", sum := "5e71d84b4e91c79b8c7bc02e66f2ebcec84459889e6bcf4eacb1ed1099e6345f", func := "loop.example/g01298/laws.FnExactRootsModulo", spec := "fnExactRootsModulo", unfollowed := true, recurses := true, plainKeys := false, apart := false }
def FnExactRootsModuloSaid : Prop := fnExactRootsModuloRow.holds Try.pinned (OpenSpec.ofChange fnExactRootsModuloSpec)

/-- ITS FALSE NEIGHBOUR: 'it returns false'. Refute it at one input. -/
def fnExactRootsModuloWrong : ChangeSpec := { name := "fnExactRootsModulo", fn := fun _ => fun
  | [d1, d2] => { results := [.lit (.bool false)], args := [d1, d2] }
  | _ => none }
def FnExactRootsModuloWrongFalsely : Prop := fnExactRootsModuloRow.holds Try.pinned (OpenSpec.ofChange fnExactRootsModuloWrong)

/-- 'laws.FnExactEdgeDeterminant': WHATEVER THE INPUT: true; the input reads as it did. -/
def fnExactEdgeDeterminantSpec : ChangeSpec := { name := "fnExactEdgeDeterminant", fn := fun _ => fun
  | [d] => { results := [.lit (.bool true)], args := [d] }
  | _ => none }
def fnExactEdgeDeterminantRow : OpenClaim := { program := "ytebgbplhcaocoaa", sum := "5e71d84b4e91c79b8c7bc02e66f2ebcec84459889e6bcf4eacb1ed1099e6345f", func := "loop.example/g01298/laws.FnExactEdgeDeterminant", spec := "fnExactEdgeDeterminant", unfollowed := true, recurses := true, plainKeys := false, apart := false }
def FnExactEdgeDeterminantSaid : Prop := fnExactEdgeDeterminantRow.holds Try.pinned (OpenSpec.ofChange fnExactEdgeDeterminantSpec)

/-- ITS FALSE NEIGHBOUR: 'it returns false'. Refute it at one input. -/
def fnExactEdgeDeterminantWrong : ChangeSpec := { name := "fnExactEdgeDeterminant", fn := fun _ => fun
  | [d] => { results := [.lit (.bool false)], args := [d] }
  | _ => none }
def FnExactEdgeDeterminantWrongFalsely : Prop := fnExactEdgeDeterminantRow.holds Try.pinned (OpenSpec.ofChange fnExactEdgeDeterminantWrong)

/-- 'laws.FnExactWeightedCounts': WHATEVER THE INPUT: true; the input reads as it did. -/
def fnExactWeightedCountsSpec : ChangeSpec := { name := "fnExactWeightedCounts", fn := fun _ => fun
  | [d1, d2, d3, d4] => { results := [.lit (.bool true)], args := [d1, d2, d3, d4] }
  | _ => none }
def fnExactWeightedCountsRow : OpenClaim := { program := "ytebgbplhcaocoaa", sum := "5e71d84b4e91c79b8c7bc02e66f2ebcec84459889e6bcf4eacb1ed1099e6345f", func := "loop.example/g01298/laws.FnExactWeightedCounts", spec := "fnExactWeightedCounts", unfollowed := true, recurses := true, plainKeys := false, apart := false }
def FnExactWeightedCountsSaid : Prop := fnExactWeightedCountsRow.holds Try.pinned (OpenSpec.ofChange fnExactWeightedCountsSpec)

/-- ITS FALSE NEIGHBOUR: 'it returns false'. Refute it at one input. -/
def fnExactWeightedCountsWrong : ChangeSpec := { name := "fnExactWeightedCounts", fn := fun _ => fun
  | [d1, d2, d3, d4] => { results := [.lit (.bool false)], args := [d1, d2, d3, d4] }
  | _ => none }
def FnExactWeightedCountsWrongFalsely : Prop := fnExactWeightedCountsRow.holds Try.pinned (OpenSpec.ofChange fnExactWeightedCountsWrong)

/-- 'laws.FnExactLeastTurn': WHATEVER THE INPUT: true; the input reads as it did. -/
def fnExactLeastTurnSpec : ChangeSpec := { name := "fnExactLeastTurn", fn := fun _ => fun
  | [d1, d2] => { results := [.lit (.bool true)], args := [d1, d2] }
  | _ => none }
def fnExactLeastTurnRow : OpenClaim := { program := "ytebgbplhcaocoaa", sum := "5e71d84b4e91c79b8c7bc02e66f2ebcec84459889e6bcf4eacb1ed1099e6345f", func := "loop.example/g01298/laws.FnExactLeastTurn", spec := "fnExactLeastTurn", unfollowed := true, recurses := true, plainKeys := false, apart := false }
def FnExactLeastTurnSaid : Prop := fnExactLeastTurnRow.holds Try.pinned (OpenSpec.ofChange fnExactLeastTurnSpec)

/-- ITS FALSE NEIGHBOUR: 'it returns false'. Refute it at one input. -/
def fnExactLeastTurnWrong : ChangeSpec := { name := "fnExactLeastTurn", fn := fun _ => fun
  | [d1, d2] => { results := [.lit (.bool false)], args := [d1, d2] }
  | _ => none }
def FnExactLeastTurnWrongFalsely : Prop := fnExactLeastTurnRow.holds Try.pinned (OpenSpec.ofChange fnExactLeastTurnWrong)

/-- 'laws.FnExactIsPrimeWalk': WHATEVER THE INPUT: true; the input reads as it did. -/
def fnExactIsPrimeWalkSpec : ChangeSpec := { name := "fnExactIsPrimeWalk", fn := fun _ => fun
  | [d1, d2] => { results := [.lit (.bool true)], args := [d1, d2] }
  | _ => none }
def fnExactIsPrimeWalkRow : OpenClaim := { program := "ytebgbplhcaocoaa", sum := "5e71d84b4e91c79b8c7bc02e66f2ebcec84459889e6bcf4eacb1ed1099e6345f", func := "loop.example/g01298/laws.FnExactIsPrimeWalk", spec := "fnExactIsPrimeWalk", unfollowed := true, recurses := true, plainKeys := false, apart := false }
def FnExactIsPrimeWalkSaid : Prop := fnExactIsPrimeWalkRow.holds Try.pinned (OpenSpec.ofChange fnExactIsPrimeWalkSpec)

/-- ITS FALSE NEIGHBOUR: 'it returns false'. Refute it at one input. -/
def fnExactIsPrimeWalkWrong : ChangeSpec := { name := "fnExactIsPrimeWalk", fn := fun _ => fun
  | [d1, d2] => { results := [.lit (.bool false)], args := [d1, d2] }
  | _ => none }
def FnExactIsPrimeWalkWrongFalsely : Prop := fnExactIsPrimeWalkRow.holds Try.pinned (OpenSpec.ofChange fnExactIsPrimeWalkWrong)

/- THE SECOND FORM. 'bulk': how many values and letters a reading holds, each counted each time it is reached (what is shared counts as often as it is met; a slice's spare places count too). A statement '..UptoSaid' is the law's where the arguments, and the package variables that the reading takes, are together of bulk at most 1048576: NARROWER than '..Said'. Prove '..Said' where nothing that the law and all that it calls make is longer than what came in: it says more and counts as full. Else prove '..UptoSaid'. A law counts once. -/
mutual
def uptoBulk {H : Type} : DataW H → Nat
  | .lit (.string bytes) => bytes.length + 1
  | .lit _ => 1
  | .nil => 1
  | .ptr d => uptoBulk d + 1
  | .slice elems spare => uptoBulkAll elems + uptoBulkAll spare + 1
  | .agg parts => uptoBulkAll parts + 1
  | .iface _ d => uptoBulk d + 1
  | .map entries => uptoBulkEntries entries + 1
  | .held _ => 1
def uptoBulkAll {H : Type} : List (DataW H) → Nat
  | [] => 0
  | d :: r => uptoBulk d + uptoBulkAll r
def uptoBulkEntries {H : Type} : List (Lit × DataW H) → Nat
  | [] => 0
  | x :: r => uptoBulkEntry x + uptoBulkEntries r
def uptoBulkEntry {H : Type} : Lit × DataW H → Nat
  | (.string bytes, d) => bytes.length + uptoBulk d + 1
  | (_, d) => uptoBulk d + 1
 end
def uptoSmall : (H : Type) → List (DataW H) → Bool := fun _ ds => decide (uptoBulkAll ds ≤ 1048576)
def OpenSpec.upto (s : _root_.Go.ChangeSpec) : _root_.Go.OpenSpec := { _root_.Go.OpenSpec.ofChange s with cond := some uptoSmall }

/-- 'laws.FnExactEdgeRows', WHERE WHAT IT READS IS OF BULK AT MOST 1048576: true; the input reads as it did. -/
def fnExactEdgeRowsUptoRow : OpenClaim := { program := "ytebgbplhcaocoaa", sum := "5e71d84b4e91c79b8c7bc02e66f2ebcec84459889e6bcf4eacb1ed1099e6345f", func := "loop.example/g01298/laws.FnExactEdgeRows", spec := "fnExactEdgeRows", plainKeys := false, apart := false, narrowed := true }
def FnExactEdgeRowsUptoSaid : Prop := fnExactEdgeRowsUptoRow.holds Try.pinned (OpenSpec.upto fnExactEdgeRowsSpec)

/-- 'laws.FnExactDegreeProduct', WHERE WHAT IT READS IS OF BULK AT MOST 1048576: true; the input reads as it did. -/
def fnExactDegreeProductUptoRow : OpenClaim := { program := "ytebgbplhcaocoaa", sum := "5e71d84b4e91c79b8c7bc02e66f2ebcec84459889e6bcf4eacb1ed1099e6345f", func := "loop.example/g01298/laws.FnExactDegreeProduct", spec := "fnExactDegreeProduct", plainKeys := false, apart := false, narrowed := true }
def FnExactDegreeProductUptoSaid : Prop := fnExactDegreeProductUptoRow.holds Try.pinned (OpenSpec.upto fnExactDegreeProductSpec)

/-- 'laws.FnExactFollowersOf', WHERE WHAT IT READS IS OF BULK AT MOST 1048576: true; the input reads as it did. -/
def fnExactFollowersOfUptoRow : OpenClaim := { program := "ytebgbplhcaocoaa", sum := "5e71d84b4e91c79b8c7bc02e66f2ebcec84459889e6bcf4eacb1ed1099e6345f", func := "loop.example/g01298/laws.FnExactFollowersOf", spec := "fnExactFollowersOf", plainKeys := false, apart := false, narrowed := true }
def FnExactFollowersOfUptoSaid : Prop := fnExactFollowersOfUptoRow.holds Try.pinned (OpenSpec.upto fnExactFollowersOfSpec)

/-- 'laws.FnExactPrimesOfSums', WHERE WHAT IT READS IS OF BULK AT MOST 1048576: true; the input reads as it did. -/
def fnExactPrimesOfSumsUptoRow : OpenClaim := { program := "ytebgbplhcaocoaa", sum := "5e71d84b4e91c79b8c7bc02e66f2ebcec84459889e6bcf4eacb1ed1099e6345f", func := "loop.example/g01298/laws.FnExactPrimesOfSums", spec := "fnExactPrimesOfSums", unfollowed := true, recurses := true, plainKeys := false, apart := false, narrowed := true }
def FnExactPrimesOfSumsUptoSaid : Prop := fnExactPrimesOfSumsUptoRow.holds Try.pinned (OpenSpec.upto fnExactPrimesOfSumsSpec)

/-- 'laws.FnExactPolynomialOfSums', WHERE WHAT IT READS IS OF BULK AT MOST 1048576: true; the input reads as it did. -/
def fnExactPolynomialOfSumsUptoRow : OpenClaim := { program := "ytebgbplhcaocoaa", sum := "5e71d84b4e91c79b8c7bc02e66f2ebcec84459889e6bcf4eacb1ed1099e6345f", func := "loop.example/g01298/laws.FnExactPolynomialOfSums", spec := "fnExactPolynomialOfSums", unfollowed := true, recurses := true, plainKeys := false, apart := false, narrowed := true }
def FnExactPolynomialOfSumsUptoSaid : Prop := fnExactPolynomialOfSumsUptoRow.holds Try.pinned (OpenSpec.upto fnExactPolynomialOfSumsSpec)

/-- 'laws.FnExactLineGraph', WHERE WHAT IT READS IS OF BULK AT MOST 1048576: true; the input reads as it did. -/
def fnExactLineGraphUptoRow : OpenClaim := { program := "ytebgbplhcaocoaa", sum := "5e71d84b4e91c79b8c7bc02e66f2ebcec84459889e6bcf4eacb1ed1099e6345f", func := "loop.example/g01298/laws.FnExactLineGraph", spec := "fnExactLineGraph", unfollowed := true, recurses := true, plainKeys := false, apart := false, narrowed := true }
def FnExactLineGraphUptoSaid : Prop := fnExactLineGraphUptoRow.holds Try.pinned (OpenSpec.upto fnExactLineGraphSpec)

/-- 'laws.FnExactLeastCode', WHERE WHAT IT READS IS OF BULK AT MOST 1048576: true; the input reads as it did. -/
def fnExactLeastCodeUptoRow : OpenClaim := { program := "ytebgbplhcaocoaa", sum := "5e71d84b4e91c79b8c7bc02e66f2ebcec84459889e6bcf4eacb1ed1099e6345f", func := "loop.example/g01298/laws.FnExactLeastCode", spec := "fnExactLeastCode", unfollowed := true, recurses := true, plainKeys := false, apart := false, narrowed := true }
def FnExactLeastCodeUptoSaid : Prop := fnExactLeastCodeUptoRow.holds Try.pinned (OpenSpec.upto fnExactLeastCodeSpec)

/-- 'laws.FnExactCountAutomorphisms', WHERE WHAT IT READS IS OF BULK AT MOST 1048576: true; the input reads as it did. -/
def fnExactCountAutomorphismsUptoRow : OpenClaim := { program := "ytebgbplhcaocoaa", sum := "5e71d84b4e91c79b8c7bc02e66f2ebcec84459889e6bcf4eacb1ed1099e6345f", func := "loop.example/g01298/laws.FnExactCountAutomorphisms", spec := "fnExactCountAutomorphisms", unfollowed := true, recurses := true, plainKeys := false, apart := false, narrowed := true }
def FnExactCountAutomorphismsUptoSaid : Prop := fnExactCountAutomorphismsUptoRow.holds Try.pinned (OpenSpec.upto fnExactCountAutomorphismsSpec)

/-- 'laws.FnExactEdgeValue', WHERE WHAT IT READS IS OF BULK AT MOST 1048576: true; the input reads as it did. -/
def fnExactEdgeValueUptoRow : OpenClaim := { program := "ytebgbplhcaocoaa", sum := "5e71d84b4e91c79b8c7bc02e66f2ebcec84459889e6bcf4eacb1ed1099e6345f", func := "loop.example/g01298/laws.FnExactEdgeValue", spec := "fnExactEdgeValue", unfollowed := true, recurses := true, plainKeys := false, apart := false, narrowed := true }
def FnExactEdgeValueUptoSaid : Prop := fnExactEdgeValueUptoRow.holds Try.pinned (OpenSpec.upto fnExactEdgeValueSpec)

/-- 'laws.FnExactRootsModulo', WHERE WHAT IT READS IS OF BULK AT MOST 1048576: true; the input reads as it did. -/
def fnExactRootsModuloUptoRow : OpenClaim := { program := "ytebgbplhcaocoaa", sum := "5e71d84b4e91c79b8c7bc02e66f2ebcec84459889e6bcf4eacb1ed1099e6345f", func := "loop.example/g01298/laws.FnExactRootsModulo", spec := "fnExactRootsModulo", unfollowed := true, recurses := true, plainKeys := false, apart := false, narrowed := true }
def FnExactRootsModuloUptoSaid : Prop := fnExactRootsModuloUptoRow.holds Try.pinned (OpenSpec.upto fnExactRootsModuloSpec)

/-- 'laws.FnExactEdgeDeterminant', WHERE WHAT IT READS IS OF BULK AT MOST 1048576: true; the input reads as it did. -/
def fnExactEdgeDeterminantUptoRow : OpenClaim := { program := "ytebgbplhcaocoaa", sum := "5e71d84b4e91c79b8c7bc02e66f2ebcec84459889e6bcf4eacb1ed1099e6345f", func := "loop.example/g01298/laws.FnExactEdgeDeterminant", spec := "fnExactEdgeDeterminant", unfollowed := true, recurses := true, plainKeys := false, apart := false, narrowed := true }
def FnExactEdgeDeterminantUptoSaid : Prop := fnExactEdgeDeterminantUptoRow.holds Try.pinned (OpenSpec.upto fnExactEdgeDeterminantSpec)

/-- 'laws.FnExactWeightedCounts', WHERE WHAT IT READS IS OF BULK AT MOST 1048576: true; the input reads as it did. -/
def fnExactWeightedCountsUptoRow : OpenClaim := { program := "ytebgbplhcaocoaa", sum := "5e71d84b4e91c79b8c7bc02e66f2ebcec84459889e6bcf4eacb1ed1099e6345f", func := "loop.example/g01298/laws.FnExactWeightedCounts", spec := "fnExactWeightedCounts", unfollowed := true, recurses := true, plainKeys := false, apart := false, narrowed := true }
def FnExactWeightedCountsUptoSaid : Prop := fnExactWeightedCountsUptoRow.holds Try.pinned (OpenSpec.upto fnExactWeightedCountsSpec)

/-- 'laws.FnExactLeastTurn', WHERE WHAT IT READS IS OF BULK AT MOST 1048576: true; the input reads as it did. -/
def fnExactLeastTurnUptoRow : OpenClaim := { program := "ytebgbplhcaocoaa", sum := "5e71d84b4e91c79b8c7bc02e66f2ebcec84459889e6bcf4eacb1ed1099e6345f", func := "loop.example/g01298/laws.FnExactLeastTurn", spec := "fnExactLeastTurn", unfollowed := true, recurses := true, plainKeys := false, apart := false, narrowed := true }
def FnExactLeastTurnUptoSaid : Prop := fnExactLeastTurnUptoRow.holds Try.pinned (OpenSpec.upto fnExactLeastTurnSpec)

/-- 'laws.FnExactIsPrimeWalk', WHERE WHAT IT READS IS OF BULK AT MOST 1048576: true; the input reads as it did. -/
def fnExactIsPrimeWalkUptoRow : OpenClaim := { program := "ytebgbplhcaocoaa", sum := "5e71d84b4e91c79b8c7bc02e66f2ebcec84459889e6bcf4eacb1ed1099e6345f", func := "loop.example/g01298/laws.FnExactIsPrimeWalk", spec := "fnExactIsPrimeWalk", unfollowed := true, recurses := true, plainKeys := false, apart := false, narrowed := true }
def FnExactIsPrimeWalkUptoSaid : Prop := fnExactIsPrimeWalkUptoRow.holds Try.pinned (OpenSpec.upto fnExactIsPrimeWalkSpec)

end Rows
end Go.Proofs.Ytebgbplhcaocoaa
