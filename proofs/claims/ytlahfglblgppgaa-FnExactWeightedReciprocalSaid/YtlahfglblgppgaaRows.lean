/-
  No cell of these rows narrows 'for every input' (looked for: loops, veiled, ifaces, maps, wideKeys, modest, calm, conditions, laid).
  DERIVED. THE GIVEN ROWS OF THIS SEAT. 14 by the template 'for every input the law returns true; each argument reads behind the call as it read before'; 0 by the template 'total and deterministic' (their statements: YtlahfglblgppgaaTotals.lean).
  GIVEN WITH THE SEED: the statements are not yours to turn. If you find one false, say at which input.
  Laid BY PROGRAM, IN A SANDBOX (cutbox-rows.mjs): the forced cells as the released guide's own fill.sh prints them over the translation 15c5bd8f42728d13… (all of the seat's roots in one cut). By AI agents, Wed Nov 11 2026. No macro, syntax, notation, axiom, sorry.
-/
import Derived.Test.YtlahfglblgppgaaChecked
import GoSem.Claim
import GoSem.ClaimJoined
import GoSem.ClaimMapViews
import Derived.JoinedTies
import Derived.KernelRfl
namespace Go.Proofs.Ytlahfglblgppgaa
/- THE CELL 'sum', in the pinned program and in every row, IS THE sha256 OF THE DUMP (.gsa) THAT YtlahfglblgppgaaProg.lean LOADS. Nothing in Lean hashes anything: it is a label: what it is worth is what the hold of that sum in a sandbox is worth. -/
noncomputable def Try.pinned : Pinned := { name := "ytlahfglblgppgaa", sum := "15c5bd8f42728d1333e2ae50225c271d0d719e610791fddf49ece5d6562a93ad", checked := Try.checked }
namespace Rows
def none {H : Type} : Left H := { results := [], args := [] }

/-- 'laws.FnExactEqualWeights': WHATEVER THE INPUT: true; the input reads as it did. -/
def fnExactEqualWeightsSpec : ChangeSpec := { name := "fnExactEqualWeights", fn := fun _ => fun
  | [d1, d2, d3] => { results := [.lit (.bool true)], args := [d1, d2, d3] }
  | _ => none }
def fnExactEqualWeightsRow : OpenClaim := { program := "ytlahfglblgppgaa", sum := "15c5bd8f42728d1333e2ae50225c271d0d719e610791fddf49ece5d6562a93ad", func := "loop.example/g01298/laws.FnExactEqualWeights", spec := "fnExactEqualWeights", plainKeys := false, apart := false }
def FnExactEqualWeightsSaid : Prop := fnExactEqualWeightsRow.holds Try.pinned (OpenSpec.ofChange fnExactEqualWeightsSpec)

/-- ITS FALSE NEIGHBOUR: 'it returns false'. Refute it at one input. -/
def fnExactEqualWeightsWrong : ChangeSpec := { name := "fnExactEqualWeights", fn := fun _ => fun
  | [d1, d2, d3] => { results := [.lit (.bool false)], args := [d1, d2, d3] }
  | _ => none }
def FnExactEqualWeightsWrongFalsely : Prop := fnExactEqualWeightsRow.holds Try.pinned (OpenSpec.ofChange fnExactEqualWeightsWrong)

/-- 'laws.FnExactCountTurns': WHATEVER THE INPUT: true; the input reads as it did. -/
def fnExactCountTurnsSpec : ChangeSpec := { name := "fnExactCountTurns", fn := fun _ => fun
  | [d1, d2] => { results := [.lit (.bool true)], args := [d1, d2] }
  | _ => none }
def fnExactCountTurnsRow : OpenClaim := { program := "ytlahfglblgppgaa", sum := "15c5bd8f42728d1333e2ae50225c271d0d719e610791fddf49ece5d6562a93ad", func := "loop.example/g01298/laws.FnExactCountTurns", spec := "fnExactCountTurns", plainKeys := false, apart := false }
def FnExactCountTurnsSaid : Prop := fnExactCountTurnsRow.holds Try.pinned (OpenSpec.ofChange fnExactCountTurnsSpec)

/-- ITS FALSE NEIGHBOUR: 'it returns false'. Refute it at one input. -/
def fnExactCountTurnsWrong : ChangeSpec := { name := "fnExactCountTurns", fn := fun _ => fun
  | [d1, d2] => { results := [.lit (.bool false)], args := [d1, d2] }
  | _ => none }
def FnExactCountTurnsWrongFalsely : Prop := fnExactCountTurnsRow.holds Try.pinned (OpenSpec.ofChange fnExactCountTurnsWrong)

/-- 'laws.FnExactWeightOfWalk': WHATEVER THE INPUT: true; the input reads as it did. -/
def fnExactWeightOfWalkSpec : ChangeSpec := { name := "fnExactWeightOfWalk", fn := fun _ => fun
  | [d1, d2, d3, d4] => { results := [.lit (.bool true)], args := [d1, d2, d3, d4] }
  | _ => none }
def fnExactWeightOfWalkRow : OpenClaim := { program := "ytlahfglblgppgaa", sum := "15c5bd8f42728d1333e2ae50225c271d0d719e610791fddf49ece5d6562a93ad", func := "loop.example/g01298/laws.FnExactWeightOfWalk", spec := "fnExactWeightOfWalk", plainKeys := false, apart := false }
def FnExactWeightOfWalkSaid : Prop := fnExactWeightOfWalkRow.holds Try.pinned (OpenSpec.ofChange fnExactWeightOfWalkSpec)

/-- ITS FALSE NEIGHBOUR: 'it returns false'. Refute it at one input. -/
def fnExactWeightOfWalkWrong : ChangeSpec := { name := "fnExactWeightOfWalk", fn := fun _ => fun
  | [d1, d2, d3, d4] => { results := [.lit (.bool false)], args := [d1, d2, d3, d4] }
  | _ => none }
def FnExactWeightOfWalkWrongFalsely : Prop := fnExactWeightOfWalkRow.holds Try.pinned (OpenSpec.ofChange fnExactWeightOfWalkWrong)

/-- 'laws.FnExactAllWalks': WHATEVER THE INPUT: true; the input reads as it did. -/
def fnExactAllWalksSpec : ChangeSpec := { name := "fnExactAllWalks", fn := fun _ => fun
  | [d1, d2] => { results := [.lit (.bool true)], args := [d1, d2] }
  | _ => none }
def fnExactAllWalksRow : OpenClaim := { program := "ytlahfglblgppgaa", sum := "15c5bd8f42728d1333e2ae50225c271d0d719e610791fddf49ece5d6562a93ad", func := "loop.example/g01298/laws.FnExactAllWalks", spec := "fnExactAllWalks", unfollowed := true, recurses := true, plainKeys := false, apart := false }
def FnExactAllWalksSaid : Prop := fnExactAllWalksRow.holds Try.pinned (OpenSpec.ofChange fnExactAllWalksSpec)

/-- ITS FALSE NEIGHBOUR: 'it returns false'. Refute it at one input. -/
def fnExactAllWalksWrong : ChangeSpec := { name := "fnExactAllWalks", fn := fun _ => fun
  | [d1, d2] => { results := [.lit (.bool false)], args := [d1, d2] }
  | _ => none }
def FnExactAllWalksWrongFalsely : Prop := fnExactAllWalksRow.holds Try.pinned (OpenSpec.ofChange fnExactAllWalksWrong)

/-- 'laws.FnExactWeightedReciprocal': WHATEVER THE INPUT: true; the input reads as it did. -/
def fnExactWeightedReciprocalSpec : ChangeSpec := { name := "fnExactWeightedReciprocal", fn := fun _ => fun
  | [d1, d2, d3] => { results := [.lit (.bool true)], args := [d1, d2, d3] }
  | _ => none }
def fnExactWeightedReciprocalRow : OpenClaim := { program := "ytlahfglblgppgaa", sum := "15c5bd8f42728d1333e2ae50225c271d0d719e610791fddf49ece5d6562a93ad", func := "loop.example/g01298/laws.FnExactWeightedReciprocal", spec := "fnExactWeightedReciprocal", unfollowed := true, recurses := true, plainKeys := false, apart := false }
def FnExactWeightedReciprocalSaid : Prop := fnExactWeightedReciprocalRow.holds Try.pinned (OpenSpec.ofChange fnExactWeightedReciprocalSpec)

/-- ITS FALSE NEIGHBOUR: 'it returns false'. Refute it at one input. -/
def fnExactWeightedReciprocalWrong : ChangeSpec := { name := "fnExactWeightedReciprocal", fn := fun _ => fun
  | [d1, d2, d3] => { results := [.lit (.bool false)], args := [d1, d2, d3] }
  | _ => none }
def FnExactWeightedReciprocalWrongFalsely : Prop := fnExactWeightedReciprocalRow.holds Try.pinned (OpenSpec.ofChange fnExactWeightedReciprocalWrong)

/-- 'laws.FnExactWeightedCounts': WHATEVER THE INPUT: true; the input reads as it did. -/
def fnExactWeightedCountsSpec : ChangeSpec := { name := "fnExactWeightedCounts", fn := fun _ => fun
  | [d1, d2, d3, d4] => { results := [.lit (.bool true)], args := [d1, d2, d3, d4] }
  | _ => none }
def fnExactWeightedCountsRow : OpenClaim := { program := "ytlahfglblgppgaa", sum := "15c5bd8f42728d1333e2ae50225c271d0d719e610791fddf49ece5d6562a93ad", func := "loop.example/g01298/laws.FnExactWeightedCounts", spec := "fnExactWeightedCounts", unfollowed := true, recurses := true, plainKeys := false, apart := false }
def FnExactWeightedCountsSaid : Prop := fnExactWeightedCountsRow.holds Try.pinned (OpenSpec.ofChange fnExactWeightedCountsSpec)

/-- ITS FALSE NEIGHBOUR: 'it returns false'. Refute it at one input. -/
def fnExactWeightedCountsWrong : ChangeSpec := { name := "fnExactWeightedCounts", fn := fun _ => fun
  | [d1, d2, d3, d4] => { results := [.lit (.bool false)], args := [d1, d2, d3, d4] }
  | _ => none }
def FnExactWeightedCountsWrongFalsely : Prop := fnExactWeightedCountsRow.holds Try.pinned (OpenSpec.ofChange fnExactWeightedCountsWrong)

/-- 'laws.FnExactBartholdiReciprocal': WHATEVER THE INPUT: true; the input reads as it did. -/
def fnExactBartholdiReciprocalSpec : ChangeSpec := { name := "fnExactBartholdiReciprocal", fn := fun _ => fun
  | [d1, d2, d3] => { results := [.lit (.bool true)], args := [d1, d2, d3] }
  | _ => none }
def fnExactBartholdiReciprocalRow : OpenClaim := { program := "ytlahfglblgppgaa", sum := "15c5bd8f42728d1333e2ae50225c271d0d719e610791fddf49ece5d6562a93ad", func := "loop.example/g01298/laws.FnExactBartholdiReciprocal", spec := "fnExactBartholdiReciprocal", unfollowed := true, recurses := true, plainKeys := false, apart := false }
def FnExactBartholdiReciprocalSaid : Prop := fnExactBartholdiReciprocalRow.holds Try.pinned (OpenSpec.ofChange fnExactBartholdiReciprocalSpec)

/-- ITS FALSE NEIGHBOUR: 'it returns false'. Refute it at one input. -/
def fnExactBartholdiReciprocalWrong : ChangeSpec := { name := "fnExactBartholdiReciprocal", fn := fun _ => fun
  | [d1, d2, d3] => { results := [.lit (.bool false)], args := [d1, d2, d3] }
  | _ => none }
def FnExactBartholdiReciprocalWrongFalsely : Prop := fnExactBartholdiReciprocalRow.holds Try.pinned (OpenSpec.ofChange fnExactBartholdiReciprocalWrong)

/-- 'laws.FnExactBartholdiFactor': WHATEVER THE INPUT: true; the input reads as it did. -/
def fnExactBartholdiFactorSpec : ChangeSpec := { name := "fnExactBartholdiFactor", fn := fun _ => fun
  | [d1, d2, d3] => { results := [.lit (.bool true)], args := [d1, d2, d3] }
  | _ => none }
def fnExactBartholdiFactorRow : OpenClaim := { program := "ytlahfglblgppgaa", sum := "15c5bd8f42728d1333e2ae50225c271d0d719e610791fddf49ece5d6562a93ad", func := "loop.example/g01298/laws.FnExactBartholdiFactor", spec := "fnExactBartholdiFactor", unfollowed := true, recurses := true, plainKeys := false, apart := false }
def FnExactBartholdiFactorSaid : Prop := fnExactBartholdiFactorRow.holds Try.pinned (OpenSpec.ofChange fnExactBartholdiFactorSpec)

/-- ITS FALSE NEIGHBOUR: 'it returns false'. Refute it at one input. -/
def fnExactBartholdiFactorWrong : ChangeSpec := { name := "fnExactBartholdiFactor", fn := fun _ => fun
  | [d1, d2, d3] => { results := [.lit (.bool false)], args := [d1, d2, d3] }
  | _ => none }
def FnExactBartholdiFactorWrongFalsely : Prop := fnExactBartholdiFactorRow.holds Try.pinned (OpenSpec.ofChange fnExactBartholdiFactorWrong)

/-- 'laws.FnExactTurnTable': WHATEVER THE INPUT: true; the input reads as it did. -/
def fnExactTurnTableSpec : ChangeSpec := { name := "fnExactTurnTable", fn := fun _ => fun
  | [d1, d2] => { results := [.lit (.bool true)], args := [d1, d2] }
  | _ => none }
def fnExactTurnTableRow : OpenClaim := { program := "ytlahfglblgppgaa", sum := "15c5bd8f42728d1333e2ae50225c271d0d719e610791fddf49ece5d6562a93ad", func := "loop.example/g01298/laws.FnExactTurnTable", spec := "fnExactTurnTable", unfollowed := true, recurses := true, plainKeys := false, apart := false }
def FnExactTurnTableSaid : Prop := fnExactTurnTableRow.holds Try.pinned (OpenSpec.ofChange fnExactTurnTableSpec)

/-- ITS FALSE NEIGHBOUR: 'it returns false'. Refute it at one input. -/
def fnExactTurnTableWrong : ChangeSpec := { name := "fnExactTurnTable", fn := fun _ => fun
  | [d1, d2] => { results := [.lit (.bool false)], args := [d1, d2] }
  | _ => none }
def FnExactTurnTableWrongFalsely : Prop := fnExactTurnTableRow.holds Try.pinned (OpenSpec.ofChange fnExactTurnTableWrong)

/-- 'laws.FnExactDerivedGraph': WHATEVER THE INPUT: true; the input reads as it did. -/
def fnExactDerivedGraphSpec : ChangeSpec := { name := "fnExactDerivedGraph", fn := fun _ => fun
  | [d] => { results := [.lit (.bool true)], args := [d] }
  | _ => none }
def fnExactDerivedGraphRow : OpenClaim := { program := "ytlahfglblgppgaa", sum := "15c5bd8f42728d1333e2ae50225c271d0d719e610791fddf49ece5d6562a93ad", func := "loop.example/g01298/laws.FnExactDerivedGraph", spec := "fnExactDerivedGraph", recurses := true, plainKeys := false, apart := false }
def FnExactDerivedGraphSaid : Prop := fnExactDerivedGraphRow.holds Try.pinned (OpenSpec.ofChange fnExactDerivedGraphSpec)

/-- ITS FALSE NEIGHBOUR: 'it returns false'. Refute it at one input. -/
def fnExactDerivedGraphWrong : ChangeSpec := { name := "fnExactDerivedGraph", fn := fun _ => fun
  | [d] => { results := [.lit (.bool false)], args := [d] }
  | _ => none }
def FnExactDerivedGraphWrongFalsely : Prop := fnExactDerivedGraphRow.holds Try.pinned (OpenSpec.ofChange fnExactDerivedGraphWrong)

/-- 'laws.FnExactIsConnectedCover': WHATEVER THE INPUT: true; the input reads as it did. -/
def fnExactIsConnectedCoverSpec : ChangeSpec := { name := "fnExactIsConnectedCover", fn := fun _ => fun
  | [d] => { results := [.lit (.bool true)], args := [d] }
  | _ => none }
def fnExactIsConnectedCoverRow : OpenClaim := { program := "ytlahfglblgppgaa", sum := "15c5bd8f42728d1333e2ae50225c271d0d719e610791fddf49ece5d6562a93ad", func := "loop.example/g01298/laws.FnExactIsConnectedCover", spec := "fnExactIsConnectedCover", recurses := true, plainKeys := false, apart := false }
def FnExactIsConnectedCoverSaid : Prop := fnExactIsConnectedCoverRow.holds Try.pinned (OpenSpec.ofChange fnExactIsConnectedCoverSpec)

/-- ITS FALSE NEIGHBOUR: 'it returns false'. Refute it at one input. -/
def fnExactIsConnectedCoverWrong : ChangeSpec := { name := "fnExactIsConnectedCover", fn := fun _ => fun
  | [d] => { results := [.lit (.bool false)], args := [d] }
  | _ => none }
def FnExactIsConnectedCoverWrongFalsely : Prop := fnExactIsConnectedCoverRow.holds Try.pinned (OpenSpec.ofChange fnExactIsConnectedCoverWrong)

/-- 'laws.FnExactPartsOf': WHATEVER THE INPUT: true; the input reads as it did. -/
def fnExactPartsOfSpec : ChangeSpec := { name := "fnExactPartsOf", fn := fun _ => fun
  | [d] => { results := [.lit (.bool true)], args := [d] }
  | _ => none }
def fnExactPartsOfRow : OpenClaim := { program := "ytlahfglblgppgaa", sum := "15c5bd8f42728d1333e2ae50225c271d0d719e610791fddf49ece5d6562a93ad", func := "loop.example/g01298/laws.FnExactPartsOf", spec := "fnExactPartsOf", plainKeys := false, apart := false }
def FnExactPartsOfSaid : Prop := fnExactPartsOfRow.holds Try.pinned (OpenSpec.ofChange fnExactPartsOfSpec)

/-- ITS FALSE NEIGHBOUR: 'it returns false'. Refute it at one input. -/
def fnExactPartsOfWrong : ChangeSpec := { name := "fnExactPartsOf", fn := fun _ => fun
  | [d] => { results := [.lit (.bool false)], args := [d] }
  | _ => none }
def FnExactPartsOfWrongFalsely : Prop := fnExactPartsOfRow.holds Try.pinned (OpenSpec.ofChange fnExactPartsOfWrong)

/-- 'laws.FnExactIsPrimeWalk': WHATEVER THE INPUT: true; the input reads as it did. -/
def fnExactIsPrimeWalkSpec : ChangeSpec := { name := "fnExactIsPrimeWalk", fn := fun _ => fun
  | [d1, d2] => { results := [.lit (.bool true)], args := [d1, d2] }
  | _ => none }
def fnExactIsPrimeWalkRow : OpenClaim := { program := "ytlahfglblgppgaa", sum := "15c5bd8f42728d1333e2ae50225c271d0d719e610791fddf49ece5d6562a93ad", func := "loop.example/g01298/laws.FnExactIsPrimeWalk", spec := "fnExactIsPrimeWalk", unfollowed := true, recurses := true, plainKeys := false, apart := false }
def FnExactIsPrimeWalkSaid : Prop := fnExactIsPrimeWalkRow.holds Try.pinned (OpenSpec.ofChange fnExactIsPrimeWalkSpec)

/-- ITS FALSE NEIGHBOUR: 'it returns false'. Refute it at one input. -/
def fnExactIsPrimeWalkWrong : ChangeSpec := { name := "fnExactIsPrimeWalk", fn := fun _ => fun
  | [d1, d2] => { results := [.lit (.bool false)], args := [d1, d2] }
  | _ => none }
def FnExactIsPrimeWalkWrongFalsely : Prop := fnExactIsPrimeWalkRow.holds Try.pinned (OpenSpec.ofChange fnExactIsPrimeWalkWrong)

/-- 'laws.FnExactLeastTurn': WHATEVER THE INPUT: true; the input reads as it did. -/
def fnExactLeastTurnSpec : ChangeSpec := { name := "fnExactLeastTurn", fn := fun _ => fun
  | [d1, d2] => { results := [.lit (.bool true)], args := [d1, d2] }
  | _ => none }
def fnExactLeastTurnRow : OpenClaim := { program := "ytlahfglblgppgaa", sum := "15c5bd8f42728d1333e2ae50225c271d0d719e610791fddf49ece5d6562a93ad", func := "loop.example/g01298/laws.FnExactLeastTurn", spec := "fnExactLeastTurn", unfollowed := true, recurses := true, plainKeys := false, apart := false }
def FnExactLeastTurnSaid : Prop := fnExactLeastTurnRow.holds Try.pinned (OpenSpec.ofChange fnExactLeastTurnSpec)

/-- ITS FALSE NEIGHBOUR: 'it returns false'. Refute it at one input. -/
def fnExactLeastTurnWrong : ChangeSpec := { name := "fnExactLeastTurn", fn := fun _ => fun
  | [d1, d2] => { results := [.lit (.bool false)], args := [d1, d2] }
  | _ => none }
def FnExactLeastTurnWrongFalsely : Prop := fnExactLeastTurnRow.holds Try.pinned (OpenSpec.ofChange fnExactLeastTurnWrong)

/- THE SECOND FORM. 'bulk': how many values and letters a reading holds, each counted each time it is reached (what is shared counts as often as it is met; a slice's spare places count too). A statement '..UptoSaid' is the law's where the arguments, and the package variables that the reading takes, are together of bulk at most 1048576: NARROWER than '..Said'. Prove '..Said' where nothing that the law and all that it calls make is longer than what came in: it says more and counts as full. Else prove '..UptoSaid'. A law counts once. -/
mutual
def uptoBulk {H : Type} : DataW H → Nat
  | .lit (.string bytes) => bytes.length + 1
  | .lit _ => 1
  | .nil => 1
  | .ptr d => uptoBulk d + 1
  | .slice elems spare => uptoBulkAll elems + uptoBulkAll spare + 1
  | .agg parts => uptoBulkAll parts + 1
  | .iface _ d => uptoBulk d + 1
  | .map entries => uptoBulkEntries entries + 1
  | .held _ => 1
def uptoBulkAll {H : Type} : List (DataW H) → Nat
  | [] => 0
  | d :: r => uptoBulk d + uptoBulkAll r
def uptoBulkEntries {H : Type} : List (Lit × DataW H) → Nat
  | [] => 0
  | x :: r => uptoBulkEntry x + uptoBulkEntries r
def uptoBulkEntry {H : Type} : Lit × DataW H → Nat
  | (.string bytes, d) => bytes.length + uptoBulk d + 1
  | (_, d) => uptoBulk d + 1
 end
def uptoSmall : (H : Type) → List (DataW H) → Bool := fun _ ds => decide (uptoBulkAll ds ≤ 1048576)
def OpenSpec.upto (s : _root_.Go.ChangeSpec) : _root_.Go.OpenSpec := { _root_.Go.OpenSpec.ofChange s with cond := some uptoSmall }

/-- 'laws.FnExactEqualWeights', WHERE WHAT IT READS IS OF BULK AT MOST 1048576: true; the input reads as it did. -/
def fnExactEqualWeightsUptoRow : OpenClaim := { program := "ytlahfglblgppgaa", sum := "15c5bd8f42728d1333e2ae50225c271d0d719e610791fddf49ece5d6562a93ad", func := "loop.example/g01298/laws.FnExactEqualWeights", spec := "fnExactEqualWeights", plainKeys := false, apart := false, narrowed := true }
def FnExactEqualWeightsUptoSaid : Prop := fnExactEqualWeightsUptoRow.holds Try.pinned (OpenSpec.upto fnExactEqualWeightsSpec)

/-- 'laws.FnExactCountTurns', WHERE WHAT IT READS IS OF BULK AT MOST 1048576: true; the input reads as it did. -/
def fnExactCountTurnsUptoRow : OpenClaim := { program := "ytlahfglblgppgaa", sum := "15c5bd8f42728d1333e2ae50225c271d0d719e610791fddf49ece5d6562a93ad", func := "loop.example/g01298/laws.FnExactCountTurns", spec := "fnExactCountTurns", plainKeys := false, apart := false, narrowed := true }
def FnExactCountTurnsUptoSaid : Prop := fnExactCountTurnsUptoRow.holds Try.pinned (OpenSpec.upto fnExactCountTurnsSpec)

/-- 'laws.FnExactWeightOfWalk', WHERE WHAT IT READS IS OF BULK AT MOST 1048576: true; the input reads as it did. -/
def fnExactWeightOfWalkUptoRow : OpenClaim := { program := "ytlahfglblgppgaa", sum := "15c5bd8f42728d1333e2ae50225c271d0d719e610791fddf49ece5d6562a93ad", func := "loop.example/g01298/laws.FnExactWeightOfWalk", spec := "fnExactWeightOfWalk", plainKeys := false, apart := false, narrowed := true }
def FnExactWeightOfWalkUptoSaid : Prop := fnExactWeightOfWalkUptoRow.holds Try.pinned (OpenSpec.upto fnExactWeightOfWalkSpec)

/-- 'laws.FnExactAllWalks', WHERE WHAT IT READS IS OF BULK AT MOST 1048576: true; the input reads as it did. -/
def fnExactAllWalksUptoRow : OpenClaim := { program := "ytlahfglblgppgaa", sum := "15c5bd8f42728d1333e2ae50225c271d0d719e610791fddf49ece5d6562a93ad", func := "loop.example/g01298/laws.FnExactAllWalks", spec := "fnExactAllWalks", unfollowed := true, recurses := true, plainKeys := false, apart := false, narrowed := true }
def FnExactAllWalksUptoSaid : Prop := fnExactAllWalksUptoRow.holds Try.pinned (OpenSpec.upto fnExactAllWalksSpec)

/-- 'laws.FnExactWeightedReciprocal', WHERE WHAT IT READS IS OF BULK AT MOST 1048576: true; the input reads as it did. -/
def fnExactWeightedReciprocalUptoRow : OpenClaim := { program := "ytlahfglblgppgaa", sum := "15c5bd8f42728d1333e2ae50225c271d0d719e610791fddf49ece5d6562a93ad", func := "loop.example/g01298/laws.FnExactWeightedReciprocal", spec := "fnExactWeightedReciprocal", unfollowed := true, recurses := true, plainKeys := false, apart := false, narrowed := true }
def FnExactWeightedReciprocalUptoSaid : Prop := fnExactWeightedReciprocalUptoRow.holds Try.pinned (OpenSpec.upto fnExactWeightedReciprocalSpec)

/-- 'laws.FnExactWeightedCounts', WHERE WHAT IT READS IS OF BULK AT MOST 1048576: true; the input reads as it did. -/
def fnExactWeightedCountsUptoRow : OpenClaim := { program := "ytlahfglblgppgaa", sum := "15c5bd8f42728d1333e2ae50225c271d0d719e610791fddf49ece5d6562a93ad", func := "loop.example/g01298/laws.FnExactWeightedCounts", spec := "fnExactWeightedCounts", unfollowed := true, recurses := true, plainKeys := false, apart := false, narrowed := true }
def FnExactWeightedCountsUptoSaid : Prop := fnExactWeightedCountsUptoRow.holds Try.pinned (OpenSpec.upto fnExactWeightedCountsSpec)

/-- 'laws.FnExactBartholdiReciprocal', WHERE WHAT IT READS IS OF BULK AT MOST 1048576: true; the input reads as it did. -/
def fnExactBartholdiReciprocalUptoRow : OpenClaim := { program := "ytlahfglblgppgaa", sum := "15c5bd8f42728d1333e2ae50225c271d0d719e610791fddf49ece5d6562a93ad", func := "loop.example/g01298/laws.FnExactBartholdiReciprocal", spec := "fnExactBartholdiReciprocal", unfollowed := true, recurses := true, plainKeys := false, apart := false, narrowed := true }
def FnExactBartholdiReciprocalUptoSaid : Prop := fnExactBartholdiReciprocalUptoRow.holds Try.pinned (OpenSpec.upto fnExactBartholdiReciprocalSpec)

/-- 'laws.FnExactBartholdiFactor', WHERE WHAT IT READS IS OF BULK AT MOST 1048576: true; the input reads as it did. -/
def fnExactBartholdiFactorUptoRow : OpenClaim := { program := "ytlahfglblgppgaa", sum := "15c5bd8f42728d1333e2ae50225c271d0d719e610791fddf49ece5d6562a93ad", func := "loop.example/g01298/laws.FnExactBartholdiFactor", spec := "fnExactBartholdiFactor", unfollowed := true, recurses := true, plainKeys := false, apart := false, narrowed := true }
def FnExactBartholdiFactorUptoSaid : Prop := fnExactBartholdiFactorUptoRow.holds Try.pinned (OpenSpec.upto fnExactBartholdiFactorSpec)

/-- 'laws.FnExactTurnTable', WHERE WHAT IT READS IS OF BULK AT MOST 1048576: true; the input reads as it did. -/
def fnExactTurnTableUptoRow : OpenClaim := { program := "ytlahfglblgppgaa", sum := "15c5bd8f42728d1333e2ae50225c271d0d719e610791fddf49ece5d6562a93ad", func := "loop.example/g01298/laws.FnExactTurnTable", spec := "fnExactTurnTable", unfollowed := true, recurses := true, plainKeys := false, apart := false, narrowed := true }
def FnExactTurnTableUptoSaid : Prop := fnExactTurnTableUptoRow.holds Try.pinned (OpenSpec.upto fnExactTurnTableSpec)

/-- 'laws.FnExactDerivedGraph', WHERE WHAT IT READS IS OF BULK AT MOST 1048576: true; the input reads as it did. -/
def fnExactDerivedGraphUptoRow : OpenClaim := { program := "ytlahfglblgppgaa", sum := "15c5bd8f42728d1333e2ae50225c271d0d719e610791fddf49ece5d6562a93ad", func := "loop.example/g01298/laws.FnExactDerivedGraph", spec := "fnExactDerivedGraph", recurses := true, plainKeys := false, apart := false, narrowed := true }
def FnExactDerivedGraphUptoSaid : Prop := fnExactDerivedGraphUptoRow.holds Try.pinned (OpenSpec.upto fnExactDerivedGraphSpec)

/-- 'laws.FnExactIsConnectedCover', WHERE WHAT IT READS IS OF BULK AT MOST 1048576: true; the input reads as it did. -/
def fnExactIsConnectedCoverUptoRow : OpenClaim := { program := "ytlahfglblgppgaa", sum := "15c5bd8f42728d1333e2ae50225c271d0d719e610791fddf49ece5d6562a93ad", func := "loop.example/g01298/laws.FnExactIsConnectedCover", spec := "fnExactIsConnectedCover", recurses := true, plainKeys := false, apart := false, narrowed := true }
def FnExactIsConnectedCoverUptoSaid : Prop := fnExactIsConnectedCoverUptoRow.holds Try.pinned (OpenSpec.upto fnExactIsConnectedCoverSpec)

/-- 'laws.FnExactPartsOf', WHERE WHAT IT READS IS OF BULK AT MOST 1048576: true; the input reads as it did. -/
def fnExactPartsOfUptoRow : OpenClaim := { program := "ytlahfglblgppgaa", sum := "15c5bd8f42728d1333e2ae50225c271d0d719e610791fddf49ece5d6562a93ad", func := "loop.example/g01298/laws.FnExactPartsOf", spec := "fnExactPartsOf", plainKeys := false, apart := false, narrowed := true }
def FnExactPartsOfUptoSaid : Prop := fnExactPartsOfUptoRow.holds Try.pinned (OpenSpec.upto fnExactPartsOfSpec)

/-- 'laws.FnExactIsPrimeWalk', WHERE WHAT IT READS IS OF BULK AT MOST 1048576: true; the input reads as it did. -/
def fnExactIsPrimeWalkUptoRow : OpenClaim := { program := "ytlahfglblgppgaa", sum := "15c5bd8f42728d1333e2ae50225c271d0d719e610791fddf49ece5d6562a93ad", func := "loop.example/g01298/laws.FnExactIsPrimeWalk", spec := "fnExactIsPrimeWalk", unfollowed := true, recurses := true, plainKeys := false, apart := false, narrowed := true }
def FnExactIsPrimeWalkUptoSaid : Prop := fnExactIsPrimeWalkUptoRow.holds Try.pinned (OpenSpec.upto fnExactIsPrimeWalkSpec)

/-- 'laws.FnExactLeastTurn', WHERE WHAT IT READS IS OF BULK AT MOST 1048576: true; the input reads as it did. -/
def fnExactLeastTurnUptoRow : OpenClaim := { program := "ytlahfglblgppgaa", sum := "15c5bd8f42728d1333e2ae50225c271d0d719e610791fddf49ece5d6562a93ad", func := "loop.example/g01298/laws.FnExactLeastTurn", spec := "fnExactLeastTurn", unfollowed := true, recurses := true, plainKeys := false, apart := false, narrowed := true }
def FnExactLeastTurnUptoSaid : Prop := fnExactLeastTurnUptoRow.holds Try.pinned (OpenSpec.upto fnExactLeastTurnSpec)

end Rows
end Go.Proofs.Ytlahfglblgppgaa
