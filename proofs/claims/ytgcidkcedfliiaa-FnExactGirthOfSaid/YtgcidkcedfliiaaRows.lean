/-
  No cell of these rows narrows 'for every input' (looked for: loops, veiled, ifaces, maps, wideKeys, modest, calm, conditions, laid).
  DERIVED. THE GIVEN ROWS OF THIS SEAT. 14 by the template 'for every input the law returns true; each argument reads behind the call as it read before'; 0 by the template 'total and deterministic' (their statements: YtgcidkcedfliiaaTotals.lean).
  GIVEN WITH THE SEED: the statements are not yours to turn. If you find one false, say at which input.
  Laid BY PROGRAM, IN A SANDBOX (cutbox-rows.mjs): the forced cells as the released guide's own fill.sh prints them over the translation b085486e40cf7a51… (all of the seat's roots in one cut). By AI agents, Wed Nov 11 2026. No macro, syntax, notation, axiom, sorry.
-/
import Derived.Test.YtgcidkcedfliiaaChecked
import GoSem.Claim
import GoSem.ClaimJoined
import GoSem.ClaimMapViews
import Derived.JoinedTies
import Derived.KernelRfl
namespace Go.Proofs.Ytgcidkcedfliiaa
/- THE CELL 'sum', in the pinned program and in every row, IS THE sha256 OF THE DUMP (.gsa) THAT YtgcidkcedfliiaaProg.lean LOADS. Nothing in Lean hashes anything: it is a label: what it is worth is what the hold of that sum in a sandbox is worth. -/
noncomputable def Try.pinned : Pinned := { name := "ytgcidkcedfliiaa", sum := "b085486e40cf7a51703b003e8e0c959b4ea21de124ef383885bd1eec92b529d3", checked := Try.checked }
namespace Rows
def none {H : Type} : Left H := { results := [], args := [] }

/-- 'laws.FnExactIsWalk': WHATEVER THE INPUT: true; the input reads as it did. -/
def fnExactIsWalkSpec : ChangeSpec := { name := "fnExactIsWalk", fn := fun _ => fun
  | [d1, d2] => { results := [.lit (.bool true)], args := [d1, d2] }
  | _ => none }
def fnExactIsWalkRow : OpenClaim := { program := "ytgcidkcedfliiaa", sum := "b085486e40cf7a51703b003e8e0c959b4ea21de124ef383885bd1eec92b529d3", func := "loop.example/g01298/laws.FnExactIsWalk", spec := "fnExactIsWalk", plainKeys := false, apart := false }
def FnExactIsWalkSaid : Prop := fnExactIsWalkRow.holds Try.pinned (OpenSpec.ofChange fnExactIsWalkSpec)

/-- ITS FALSE NEIGHBOUR: 'it returns false'. Refute it at one input. -/
def fnExactIsWalkWrong : ChangeSpec := { name := "fnExactIsWalk", fn := fun _ => fun
  | [d1, d2] => { results := [.lit (.bool false)], args := [d1, d2] }
  | _ => none }
def FnExactIsWalkWrongFalsely : Prop := fnExactIsWalkRow.holds Try.pinned (OpenSpec.ofChange fnExactIsWalkWrong)

/-- 'laws.FnExactIsClosed': WHATEVER THE INPUT: true; the input reads as it did. -/
def fnExactIsClosedSpec : ChangeSpec := { name := "fnExactIsClosed", fn := fun _ => fun
  | [d1, d2] => { results := [.lit (.bool true)], args := [d1, d2] }
  | _ => none }
def fnExactIsClosedRow : OpenClaim := { program := "ytgcidkcedfliiaa", sum := "b085486e40cf7a51703b003e8e0c959b4ea21de124ef383885bd1eec92b529d3", func := "loop.example/g01298/laws.FnExactIsClosed", spec := "fnExactIsClosed", plainKeys := false, apart := false }
def FnExactIsClosedSaid : Prop := fnExactIsClosedRow.holds Try.pinned (OpenSpec.ofChange fnExactIsClosedSpec)

/-- ITS FALSE NEIGHBOUR: 'it returns false'. Refute it at one input. -/
def fnExactIsClosedWrong : ChangeSpec := { name := "fnExactIsClosed", fn := fun _ => fun
  | [d1, d2] => { results := [.lit (.bool false)], args := [d1, d2] }
  | _ => none }
def FnExactIsClosedWrongFalsely : Prop := fnExactIsClosedRow.holds Try.pinned (OpenSpec.ofChange fnExactIsClosedWrong)

/-- 'laws.FnExactReverseWalk': WHATEVER THE INPUT: true; the input reads as it did. -/
def fnExactReverseWalkSpec : ChangeSpec := { name := "fnExactReverseWalk", fn := fun _ => fun
  | [d1, d2] => { results := [.lit (.bool true)], args := [d1, d2] }
  | _ => none }
def fnExactReverseWalkRow : OpenClaim := { program := "ytgcidkcedfliiaa", sum := "b085486e40cf7a51703b003e8e0c959b4ea21de124ef383885bd1eec92b529d3", func := "loop.example/g01298/laws.FnExactReverseWalk", spec := "fnExactReverseWalk", plainKeys := false, apart := false }
def FnExactReverseWalkSaid : Prop := fnExactReverseWalkRow.holds Try.pinned (OpenSpec.ofChange fnExactReverseWalkSpec)

/-- ITS FALSE NEIGHBOUR: 'it returns false'. Refute it at one input. -/
def fnExactReverseWalkWrong : ChangeSpec := { name := "fnExactReverseWalk", fn := fun _ => fun
  | [d1, d2] => { results := [.lit (.bool false)], args := [d1, d2] }
  | _ => none }
def FnExactReverseWalkWrongFalsely : Prop := fnExactReverseWalkRow.holds Try.pinned (OpenSpec.ofChange fnExactReverseWalkWrong)

/-- 'laws.FnExactIsPrimeWalk': WHATEVER THE INPUT: true; the input reads as it did. -/
def fnExactIsPrimeWalkSpec : ChangeSpec := { name := "fnExactIsPrimeWalk", fn := fun _ => fun
  | [d1, d2] => { results := [.lit (.bool true)], args := [d1, d2] }
  | _ => none }
def fnExactIsPrimeWalkRow : OpenClaim := { program := "ytgcidkcedfliiaa", sum := "b085486e40cf7a51703b003e8e0c959b4ea21de124ef383885bd1eec92b529d3", func := "loop.example/g01298/laws.FnExactIsPrimeWalk", spec := "fnExactIsPrimeWalk", unfollowed := true, recurses := true, plainKeys := false, apart := false }
def FnExactIsPrimeWalkSaid : Prop := fnExactIsPrimeWalkRow.holds Try.pinned (OpenSpec.ofChange fnExactIsPrimeWalkSpec)

/-- ITS FALSE NEIGHBOUR: 'it returns false'. Refute it at one input. -/
def fnExactIsPrimeWalkWrong : ChangeSpec := { name := "fnExactIsPrimeWalk", fn := fun _ => fun
  | [d1, d2] => { results := [.lit (.bool false)], args := [d1, d2] }
  | _ => none }
def FnExactIsPrimeWalkWrongFalsely : Prop := fnExactIsPrimeWalkRow.holds Try.pinned (OpenSpec.ofChange fnExactIsPrimeWalkWrong)

/-- 'laws.FnExactLeastTurn': WHATEVER THE INPUT: true; the input reads as it did. -/
def fnExactLeastTurnSpec : ChangeSpec := { name := "fnExactLeastTurn", fn := fun _ => fun
  | [d1, d2] => { results := [.lit (.bool true)], args := [d1, d2] }
  | _ => none }
def fnExactLeastTurnRow : OpenClaim := { program := "ytgcidkcedfliiaa", sum := "b085486e40cf7a51703b003e8e0c959b4ea21de124ef383885bd1eec92b529d3", func := "loop.example/g01298/laws.FnExactLeastTurn", spec := "fnExactLeastTurn", unfollowed := true, recurses := true, plainKeys := false, apart := false }
def FnExactLeastTurnSaid : Prop := fnExactLeastTurnRow.holds Try.pinned (OpenSpec.ofChange fnExactLeastTurnSpec)

/-- ITS FALSE NEIGHBOUR: 'it returns false'. Refute it at one input. -/
def fnExactLeastTurnWrong : ChangeSpec := { name := "fnExactLeastTurn", fn := fun _ => fun
  | [d1, d2] => { results := [.lit (.bool false)], args := [d1, d2] }
  | _ => none }
def FnExactLeastTurnWrongFalsely : Prop := fnExactLeastTurnRow.holds Try.pinned (OpenSpec.ofChange fnExactLeastTurnWrong)

/-- 'laws.FnExactEdgeMatrix': WHATEVER THE INPUT: true; the input reads as it did. -/
def fnExactEdgeMatrixSpec : ChangeSpec := { name := "fnExactEdgeMatrix", fn := fun _ => fun
  | [d] => { results := [.lit (.bool true)], args := [d] }
  | _ => none }
def fnExactEdgeMatrixRow : OpenClaim := { program := "ytgcidkcedfliiaa", sum := "b085486e40cf7a51703b003e8e0c959b4ea21de124ef383885bd1eec92b529d3", func := "loop.example/g01298/laws.FnExactEdgeMatrix", spec := "fnExactEdgeMatrix", plainKeys := false, apart := false }
def FnExactEdgeMatrixSaid : Prop := fnExactEdgeMatrixRow.holds Try.pinned (OpenSpec.ofChange fnExactEdgeMatrixSpec)

/-- ITS FALSE NEIGHBOUR: 'it returns false'. Refute it at one input. -/
def fnExactEdgeMatrixWrong : ChangeSpec := { name := "fnExactEdgeMatrix", fn := fun _ => fun
  | [d] => { results := [.lit (.bool false)], args := [d] }
  | _ => none }
def FnExactEdgeMatrixWrongFalsely : Prop := fnExactEdgeMatrixRow.holds Try.pinned (OpenSpec.ofChange fnExactEdgeMatrixWrong)

/-- 'laws.FnExactAdjacencyOf': WHATEVER THE INPUT: true; the input reads as it did. -/
def fnExactAdjacencyOfSpec : ChangeSpec := { name := "fnExactAdjacencyOf", fn := fun _ => fun
  | [d] => { results := [.lit (.bool true)], args := [d] }
  | _ => none }
def fnExactAdjacencyOfRow : OpenClaim := { program := "ytgcidkcedfliiaa", sum := "b085486e40cf7a51703b003e8e0c959b4ea21de124ef383885bd1eec92b529d3", func := "loop.example/g01298/laws.FnExactAdjacencyOf", spec := "fnExactAdjacencyOf", plainKeys := false, apart := false }
def FnExactAdjacencyOfSaid : Prop := fnExactAdjacencyOfRow.holds Try.pinned (OpenSpec.ofChange fnExactAdjacencyOfSpec)

/-- ITS FALSE NEIGHBOUR: 'it returns false'. Refute it at one input. -/
def fnExactAdjacencyOfWrong : ChangeSpec := { name := "fnExactAdjacencyOf", fn := fun _ => fun
  | [d] => { results := [.lit (.bool false)], args := [d] }
  | _ => none }
def FnExactAdjacencyOfWrongFalsely : Prop := fnExactAdjacencyOfRow.holds Try.pinned (OpenSpec.ofChange fnExactAdjacencyOfWrong)

/-- 'laws.FnExactStraightCounts': WHATEVER THE INPUT: true; the input reads as it did. -/
def fnExactStraightCountsSpec : ChangeSpec := { name := "fnExactStraightCounts", fn := fun _ => fun
  | [d1, d2] => { results := [.lit (.bool true)], args := [d1, d2] }
  | _ => none }
def fnExactStraightCountsRow : OpenClaim := { program := "ytgcidkcedfliiaa", sum := "b085486e40cf7a51703b003e8e0c959b4ea21de124ef383885bd1eec92b529d3", func := "loop.example/g01298/laws.FnExactStraightCounts", spec := "fnExactStraightCounts", plainKeys := false, apart := false }
def FnExactStraightCountsSaid : Prop := fnExactStraightCountsRow.holds Try.pinned (OpenSpec.ofChange fnExactStraightCountsSpec)

/-- ITS FALSE NEIGHBOUR: 'it returns false'. Refute it at one input. -/
def fnExactStraightCountsWrong : ChangeSpec := { name := "fnExactStraightCounts", fn := fun _ => fun
  | [d1, d2] => { results := [.lit (.bool false)], args := [d1, d2] }
  | _ => none }
def FnExactStraightCountsWrongFalsely : Prop := fnExactStraightCountsRow.holds Try.pinned (OpenSpec.ofChange fnExactStraightCountsWrong)

/-- 'laws.FnExactPrimeCounts': WHATEVER THE INPUT: true; the input reads as it did. -/
def fnExactPrimeCountsSpec : ChangeSpec := { name := "fnExactPrimeCounts", fn := fun _ => fun
  | [d1, d2] => { results := [.lit (.bool true)], args := [d1, d2] }
  | _ => none }
def fnExactPrimeCountsRow : OpenClaim := { program := "ytgcidkcedfliiaa", sum := "b085486e40cf7a51703b003e8e0c959b4ea21de124ef383885bd1eec92b529d3", func := "loop.example/g01298/laws.FnExactPrimeCounts", spec := "fnExactPrimeCounts", plainKeys := false, apart := false }
def FnExactPrimeCountsSaid : Prop := fnExactPrimeCountsRow.holds Try.pinned (OpenSpec.ofChange fnExactPrimeCountsSpec)

/-- ITS FALSE NEIGHBOUR: 'it returns false'. Refute it at one input. -/
def fnExactPrimeCountsWrong : ChangeSpec := { name := "fnExactPrimeCounts", fn := fun _ => fun
  | [d1, d2] => { results := [.lit (.bool false)], args := [d1, d2] }
  | _ => none }
def FnExactPrimeCountsWrongFalsely : Prop := fnExactPrimeCountsRow.holds Try.pinned (OpenSpec.ofChange fnExactPrimeCountsWrong)

/-- 'laws.FnExactClosedNumber': WHATEVER THE INPUT: true; the input reads as it did. -/
def fnExactClosedNumberSpec : ChangeSpec := { name := "fnExactClosedNumber", fn := fun _ => fun
  | [d1, d2] => { results := [.lit (.bool true)], args := [d1, d2] }
  | _ => none }
def fnExactClosedNumberRow : OpenClaim := { program := "ytgcidkcedfliiaa", sum := "b085486e40cf7a51703b003e8e0c959b4ea21de124ef383885bd1eec92b529d3", func := "loop.example/g01298/laws.FnExactClosedNumber", spec := "fnExactClosedNumber", plainKeys := false, apart := false }
def FnExactClosedNumberSaid : Prop := fnExactClosedNumberRow.holds Try.pinned (OpenSpec.ofChange fnExactClosedNumberSpec)

/-- ITS FALSE NEIGHBOUR: 'it returns false'. Refute it at one input. -/
def fnExactClosedNumberWrong : ChangeSpec := { name := "fnExactClosedNumber", fn := fun _ => fun
  | [d1, d2] => { results := [.lit (.bool false)], args := [d1, d2] }
  | _ => none }
def FnExactClosedNumberWrongFalsely : Prop := fnExactClosedNumberRow.holds Try.pinned (OpenSpec.ofChange fnExactClosedNumberWrong)

/-- 'laws.FnExactPrimeNumber': WHATEVER THE INPUT: true; the input reads as it did. -/
def fnExactPrimeNumberSpec : ChangeSpec := { name := "fnExactPrimeNumber", fn := fun _ => fun
  | [d1, d2] => { results := [.lit (.bool true)], args := [d1, d2] }
  | _ => none }
def fnExactPrimeNumberRow : OpenClaim := { program := "ytgcidkcedfliiaa", sum := "b085486e40cf7a51703b003e8e0c959b4ea21de124ef383885bd1eec92b529d3", func := "loop.example/g01298/laws.FnExactPrimeNumber", spec := "fnExactPrimeNumber", plainKeys := false, apart := false }
def FnExactPrimeNumberSaid : Prop := fnExactPrimeNumberRow.holds Try.pinned (OpenSpec.ofChange fnExactPrimeNumberSpec)

/-- ITS FALSE NEIGHBOUR: 'it returns false'. Refute it at one input. -/
def fnExactPrimeNumberWrong : ChangeSpec := { name := "fnExactPrimeNumber", fn := fun _ => fun
  | [d1, d2] => { results := [.lit (.bool false)], args := [d1, d2] }
  | _ => none }
def FnExactPrimeNumberWrongFalsely : Prop := fnExactPrimeNumberRow.holds Try.pinned (OpenSpec.ofChange fnExactPrimeNumberWrong)

/-- 'laws.FnExactGirthOf': WHATEVER THE INPUT: true; the input reads as it did. -/
def fnExactGirthOfSpec : ChangeSpec := { name := "fnExactGirthOf", fn := fun _ => fun
  | [d] => { results := [.lit (.bool true)], args := [d] }
  | _ => none }
def fnExactGirthOfRow : OpenClaim := { program := "ytgcidkcedfliiaa", sum := "b085486e40cf7a51703b003e8e0c959b4ea21de124ef383885bd1eec92b529d3", func := "loop.example/g01298/laws.FnExactGirthOf", spec := "fnExactGirthOf", plainKeys := false, apart := false }
def FnExactGirthOfSaid : Prop := fnExactGirthOfRow.holds Try.pinned (OpenSpec.ofChange fnExactGirthOfSpec)

/-- ITS FALSE NEIGHBOUR: 'it returns false'. Refute it at one input. -/
def fnExactGirthOfWrong : ChangeSpec := { name := "fnExactGirthOf", fn := fun _ => fun
  | [d] => { results := [.lit (.bool false)], args := [d] }
  | _ => none }
def FnExactGirthOfWrongFalsely : Prop := fnExactGirthOfRow.holds Try.pinned (OpenSpec.ofChange fnExactGirthOfWrong)

/-- 'laws.FnExactWalkMatrix': WHATEVER THE INPUT: true; the input reads as it did. -/
def fnExactWalkMatrixSpec : ChangeSpec := { name := "fnExactWalkMatrix", fn := fun _ => fun
  | [d1, d2] => { results := [.lit (.bool true)], args := [d1, d2] }
  | _ => none }
def fnExactWalkMatrixRow : OpenClaim := { program := "ytgcidkcedfliiaa", sum := "b085486e40cf7a51703b003e8e0c959b4ea21de124ef383885bd1eec92b529d3", func := "loop.example/g01298/laws.FnExactWalkMatrix", spec := "fnExactWalkMatrix", plainKeys := false, apart := false }
def FnExactWalkMatrixSaid : Prop := fnExactWalkMatrixRow.holds Try.pinned (OpenSpec.ofChange fnExactWalkMatrixSpec)

/-- ITS FALSE NEIGHBOUR: 'it returns false'. Refute it at one input. -/
def fnExactWalkMatrixWrong : ChangeSpec := { name := "fnExactWalkMatrix", fn := fun _ => fun
  | [d1, d2] => { results := [.lit (.bool false)], args := [d1, d2] }
  | _ => none }
def FnExactWalkMatrixWrongFalsely : Prop := fnExactWalkMatrixRow.holds Try.pinned (OpenSpec.ofChange fnExactWalkMatrixWrong)

/-- 'laws.FnExactEulerProduct': WHATEVER THE INPUT: true; the input reads as it did. -/
def fnExactEulerProductSpec : ChangeSpec := { name := "fnExactEulerProduct", fn := fun _ => fun
  | [d1, d2] => { results := [.lit (.bool true)], args := [d1, d2] }
  | _ => none }
def fnExactEulerProductRow : OpenClaim := { program := "ytgcidkcedfliiaa", sum := "b085486e40cf7a51703b003e8e0c959b4ea21de124ef383885bd1eec92b529d3", func := "loop.example/g01298/laws.FnExactEulerProduct", spec := "fnExactEulerProduct", plainKeys := false, apart := false }
def FnExactEulerProductSaid : Prop := fnExactEulerProductRow.holds Try.pinned (OpenSpec.ofChange fnExactEulerProductSpec)

/-- ITS FALSE NEIGHBOUR: 'it returns false'. Refute it at one input. -/
def fnExactEulerProductWrong : ChangeSpec := { name := "fnExactEulerProduct", fn := fun _ => fun
  | [d1, d2] => { results := [.lit (.bool false)], args := [d1, d2] }
  | _ => none }
def FnExactEulerProductWrongFalsely : Prop := fnExactEulerProductRow.holds Try.pinned (OpenSpec.ofChange fnExactEulerProductWrong)

/- THE SECOND FORM. 'bulk': how many values and letters a reading holds, each counted each time it is reached (what is shared counts as often as it is met; a slice's spare places count too). A statement '..UptoSaid' is the law's where the arguments, and the package variables that the reading takes, are together of bulk at most 1048576: NARROWER than '..Said'. Prove '..Said' where nothing that the law and all that it calls make is longer than what came in: it says more and counts as full. Else prove '..UptoSaid'. A law counts once. -/
mutual
def uptoBulk {H : Type} : DataW H → Nat
  | .lit (.string bytes) => bytes.length + 1
  | .lit _ => 1
  | .nil => 1
  | .ptr d => uptoBulk d + 1
  | .slice elems spare => uptoBulkAll elems + uptoBulkAll spare + 1
  | .agg parts => uptoBulkAll parts + 1
  | .iface _ d => uptoBulk d + 1
  | .map entries => uptoBulkEntries entries + 1
  | .held _ => 1
def uptoBulkAll {H : Type} : List (DataW H) → Nat
  | [] => 0
  | d :: r => uptoBulk d + uptoBulkAll r
def uptoBulkEntries {H : Type} : List (Lit × DataW H) → Nat
  | [] => 0
  | x :: r => uptoBulkEntry x + uptoBulkEntries r
def uptoBulkEntry {H : Type} : Lit × DataW H → Nat
  | (.string bytes, d) => bytes.length + uptoBulk d + 1
  | (_, d) => uptoBulk d + 1
 end
def uptoSmall : (H : Type) → List (DataW H) → Bool := fun _ ds => decide (uptoBulkAll ds ≤ 1048576)
def OpenSpec.upto (s : _root_.Go.ChangeSpec) : _root_.Go.OpenSpec := { _root_.Go.OpenSpec.ofChange s with cond := some uptoSmall }

/-- 'laws.FnExactIsWalk', WHERE WHAT IT READS IS OF BULK AT MOST 1048576: true; the input reads as it did. -/
def fnExactIsWalkUptoRow : OpenClaim := { program := "ytgcidkcedfliiaa", sum := "b085486e40cf7a51703b003e8e0c959b4ea21de124ef383885bd1eec92b529d3", func := "loop.example/g01298/laws.FnExactIsWalk", spec := "fnExactIsWalk", plainKeys := false, apart := false, narrowed := true }
def FnExactIsWalkUptoSaid : Prop := fnExactIsWalkUptoRow.holds Try.pinned (OpenSpec.upto fnExactIsWalkSpec)

/-- 'laws.FnExactIsClosed', WHERE WHAT IT READS IS OF BULK AT MOST 1048576: true; the input reads as it did. -/
def fnExactIsClosedUptoRow : OpenClaim := { program := "ytgcidkcedfliiaa", sum := "b085486e40cf7a51703b003e8e0c959b4ea21de124ef383885bd1eec92b529d3", func := "loop.example/g01298/laws.FnExactIsClosed", spec := "fnExactIsClosed", plainKeys := false, apart := false, narrowed := true }
def FnExactIsClosedUptoSaid : Prop := fnExactIsClosedUptoRow.holds Try.pinned (OpenSpec.upto fnExactIsClosedSpec)

/-- 'laws.FnExactReverseWalk', WHERE WHAT IT READS IS OF BULK AT MOST 1048576: true; the input reads as it did. -/
def fnExactReverseWalkUptoRow : OpenClaim := { program := "ytgcidkcedfliiaa", sum := "b085486e40cf7a51703b003e8e0c959b4ea21de124ef383885bd1eec92b529d3", func := "loop.example/g01298/laws.FnExactReverseWalk", spec := "fnExactReverseWalk", plainKeys := false, apart := false, narrowed := true }
def FnExactReverseWalkUptoSaid : Prop := fnExactReverseWalkUptoRow.holds Try.pinned (OpenSpec.upto fnExactReverseWalkSpec)

/-- 'laws.FnExactIsPrimeWalk', WHERE WHAT IT READS IS OF BULK AT MOST 1048576: true; the input reads as it did. -/
def fnExactIsPrimeWalkUptoRow : OpenClaim := { program := "ytgcidkcedfliiaa", sum := "b085486e40cf7a51703b003e8e0c959b4ea21de124ef383885bd1eec92b529d3", func := "loop.example/g01298/laws.FnExactIsPrimeWalk", spec := "fnExactIsPrimeWalk", unfollowed := true, recurses := true, plainKeys := false, apart := false, narrowed := true }
def FnExactIsPrimeWalkUptoSaid : Prop := fnExactIsPrimeWalkUptoRow.holds Try.pinned (OpenSpec.upto fnExactIsPrimeWalkSpec)

/-- 'laws.FnExactLeastTurn', WHERE WHAT IT READS IS OF BULK AT MOST 1048576: true; the input reads as it did. -/
def fnExactLeastTurnUptoRow : OpenClaim := { program := "ytgcidkcedfliiaa", sum := "b085486e40cf7a51703b003e8e0c959b4ea21de124ef383885bd1eec92b529d3", func := "loop.example/g01298/laws.FnExactLeastTurn", spec := "fnExactLeastTurn", unfollowed := true, recurses := true, plainKeys := false, apart := false, narrowed := true }
def FnExactLeastTurnUptoSaid : Prop := fnExactLeastTurnUptoRow.holds Try.pinned (OpenSpec.upto fnExactLeastTurnSpec)

/-- 'laws.FnExactEdgeMatrix', WHERE WHAT IT READS IS OF BULK AT MOST 1048576: true; the input reads as it did. -/
def fnExactEdgeMatrixUptoRow : OpenClaim := { program := "ytgcidkcedfliiaa", sum := "b085486e40cf7a51703b003e8e0c959b4ea21de124ef383885bd1eec92b529d3", func := "loop.example/g01298/laws.FnExactEdgeMatrix", spec := "fnExactEdgeMatrix", plainKeys := false, apart := false, narrowed := true }
def FnExactEdgeMatrixUptoSaid : Prop := fnExactEdgeMatrixUptoRow.holds Try.pinned (OpenSpec.upto fnExactEdgeMatrixSpec)

/-- 'laws.FnExactAdjacencyOf', WHERE WHAT IT READS IS OF BULK AT MOST 1048576: true; the input reads as it did. -/
def fnExactAdjacencyOfUptoRow : OpenClaim := { program := "ytgcidkcedfliiaa", sum := "b085486e40cf7a51703b003e8e0c959b4ea21de124ef383885bd1eec92b529d3", func := "loop.example/g01298/laws.FnExactAdjacencyOf", spec := "fnExactAdjacencyOf", plainKeys := false, apart := false, narrowed := true }
def FnExactAdjacencyOfUptoSaid : Prop := fnExactAdjacencyOfUptoRow.holds Try.pinned (OpenSpec.upto fnExactAdjacencyOfSpec)

/-- 'laws.FnExactStraightCounts', WHERE WHAT IT READS IS OF BULK AT MOST 1048576: true; the input reads as it did. -/
def fnExactStraightCountsUptoRow : OpenClaim := { program := "ytgcidkcedfliiaa", sum := "b085486e40cf7a51703b003e8e0c959b4ea21de124ef383885bd1eec92b529d3", func := "loop.example/g01298/laws.FnExactStraightCounts", spec := "fnExactStraightCounts", plainKeys := false, apart := false, narrowed := true }
def FnExactStraightCountsUptoSaid : Prop := fnExactStraightCountsUptoRow.holds Try.pinned (OpenSpec.upto fnExactStraightCountsSpec)

/-- 'laws.FnExactPrimeCounts', WHERE WHAT IT READS IS OF BULK AT MOST 1048576: true; the input reads as it did. -/
def fnExactPrimeCountsUptoRow : OpenClaim := { program := "ytgcidkcedfliiaa", sum := "b085486e40cf7a51703b003e8e0c959b4ea21de124ef383885bd1eec92b529d3", func := "loop.example/g01298/laws.FnExactPrimeCounts", spec := "fnExactPrimeCounts", plainKeys := false, apart := false, narrowed := true }
def FnExactPrimeCountsUptoSaid : Prop := fnExactPrimeCountsUptoRow.holds Try.pinned (OpenSpec.upto fnExactPrimeCountsSpec)

/-- 'laws.FnExactClosedNumber', WHERE WHAT IT READS IS OF BULK AT MOST 1048576: true; the input reads as it did. -/
def fnExactClosedNumberUptoRow : OpenClaim := { program := "ytgcidkcedfliiaa", sum := "b085486e40cf7a51703b003e8e0c959b4ea21de124ef383885bd1eec92b529d3", func := "loop.example/g01298/laws.FnExactClosedNumber", spec := "fnExactClosedNumber", plainKeys := false, apart := false, narrowed := true }
def FnExactClosedNumberUptoSaid : Prop := fnExactClosedNumberUptoRow.holds Try.pinned (OpenSpec.upto fnExactClosedNumberSpec)

/-- 'laws.FnExactPrimeNumber', WHERE WHAT IT READS IS OF BULK AT MOST 1048576: true; the input reads as it did. -/
def fnExactPrimeNumberUptoRow : OpenClaim := { program := "ytgcidkcedfliiaa", sum := "b085486e40cf7a51703b003e8e0c959b4ea21de124ef383885bd1eec92b529d3", func := "loop.example/g01298/laws.FnExactPrimeNumber", spec := "fnExactPrimeNumber", plainKeys := false, apart := false, narrowed := true }
def FnExactPrimeNumberUptoSaid : Prop := fnExactPrimeNumberUptoRow.holds Try.pinned (OpenSpec.upto fnExactPrimeNumberSpec)

/-- 'laws.FnExactGirthOf', WHERE WHAT IT READS IS OF BULK AT MOST 1048576: true; the input reads as it did. -/
def fnExactGirthOfUptoRow : OpenClaim := { program := "ytgcidkcedfliiaa", sum := "b085486e40cf7a51703b003e8e0c959b4ea21de124ef383885bd1eec92b529d3", func := "loop.example/g01298/laws.FnExactGirthOf", spec := "fnExactGirthOf", plainKeys := false, apart := false, narrowed := true }
def FnExactGirthOfUptoSaid : Prop := fnExactGirthOfUptoRow.holds Try.pinned (OpenSpec.upto fnExactGirthOfSpec)

/-- 'laws.FnExactWalkMatrix', WHERE WHAT IT READS IS OF BULK AT MOST 1048576: true; the input reads as it did. -/
def fnExactWalkMatrixUptoRow : OpenClaim := { program := "ytgcidkcedfliiaa", sum := "b085486e40cf7a51703b003e8e0c959b4ea21de124ef383885bd1eec92b529d3", func := "loop.example/g01298/laws.FnExactWalkMatrix", spec := "fnExactWalkMatrix", plainKeys := false, apart := false, narrowed := true }
def FnExactWalkMatrixUptoSaid : Prop := fnExactWalkMatrixUptoRow.holds Try.pinned (OpenSpec.upto fnExactWalkMatrixSpec)

/-- 'laws.FnExactEulerProduct', WHERE WHAT IT READS IS OF BULK AT MOST 1048576: true; the input reads as it did. -/
def fnExactEulerProductUptoRow : OpenClaim := { program := "ytgcidkcedfliiaa", sum := "b085486e40cf7a51703b003e8e0c959b4ea21de124ef383885bd1eec92b529d3", func := "loop.example/g01298/laws.FnExactEulerProduct", spec := "fnExactEulerProduct", plainKeys := false, apart := false, narrowed := true }
def FnExactEulerProductUptoSaid : Prop := fnExactEulerProductUptoRow.holds Try.pinned (OpenSpec.upto fnExactEulerProductSpec)

end Rows
end Go.Proofs.Ytgcidkcedfliiaa
