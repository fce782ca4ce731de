/-
  No cell of these rows narrows 'for every input' (looked for: loops, veiled, ifaces, maps, wideKeys, modest, calm, conditions, laid).
  DERIVED. THE GIVEN ROWS OF THIS SEAT. 13 by the template 'for every input the law returns true; each argument reads behind the call as it read before'; 0 by the template 'total and deterministic' (their statements: YtecobmmlpoaggaaTotals.lean).
  GIVEN WITH THE SEED: the statements are not yours to turn. If you find one false, say at which input.
  Laid BY PROGRAM, IN A SANDBOX (cutbox-rows.mjs): the forced cells as the released guide's own fill.sh prints them over the translation 449fd15d933b5cba… (all of the seat's roots in one cut). By AI agents, Wed Nov 11 2026. No macro, syntax, notation, axiom, sorry.
-/
import Derived.Test.YtecobmmlpoaggaaChecked
import GoSem.Claim
import GoSem.ClaimJoined
import GoSem.ClaimMapViews
import Derived.JoinedTies
import Derived.KernelRfl
namespace Go.Proofs.Ytecobmmlpoaggaa
/- THE CELL 'sum', in the pinned program and in every row, IS THE sha256 OF THE DUMP (.gsa) THAT YtecobmmlpoaggaaProg.lean LOADS. Nothing in Lean hashes anything: it is a label: what it is worth is what the hold of that sum in a sandbox is worth. -/
noncomputable def Try.pinned : Pinned := { name := "ytecobmmlpoaggaa", sum := "449fd15d933b5cbaff5d91a17b189561cc26dbba6a48df43efd36e937c3c680d", checked := Try.checked }
namespace Rows
def none {H : Type} : Left H := { results := [], args := [] }

/-- 'laws.FnExactIsBipartite': WHATEVER THE INPUT: true; the input reads as it did. -/
def fnExactIsBipartiteSpec : ChangeSpec := { name := "fnExactIsBipartite", fn := fun _ => fun
  | [d] => { results := [.lit (.bool true)], args := [d] }
  | _ => none }
def fnExactIsBipartiteRow : OpenClaim := { program := "ytecobmmlpoaggaa", sum := "449fd15d933b5cbaff5d91a17b189561cc26dbba6a48df43efd36e937c3c680d", func := "loop.example/g01298/laws.FnExactIsBipartite", spec := "fnExactIsBipartite", plainKeys := false, apart := false }
def FnExactIsBipartiteSaid : Prop := fnExactIsBipartiteRow.holds Try.pinned (OpenSpec.ofChange fnExactIsBipartiteSpec)

/-- ITS FALSE NEIGHBOUR: 'it returns false'. Refute it at one input. -/
def fnExactIsBipartiteWrong : ChangeSpec := { name := "fnExactIsBipartite", fn := fun _ => fun
  | [d] => { results := [.lit (.bool false)], args := [d] }
  | _ => none }
def FnExactIsBipartiteWrongFalsely : Prop := fnExactIsBipartiteRow.holds Try.pinned (OpenSpec.ofChange fnExactIsBipartiteWrong)

/-- 'laws.FnExactAdjacencyOf': WHATEVER THE INPUT: true; the input reads as it did. -/
def fnExactAdjacencyOfSpec : ChangeSpec := { name := "fnExactAdjacencyOf", fn := fun _ => fun
  | [d] => { results := [.lit (.bool true)], args := [d] }
  | _ => none }
def fnExactAdjacencyOfRow : OpenClaim := { program := "ytecobmmlpoaggaa", sum := "449fd15d933b5cbaff5d91a17b189561cc26dbba6a48df43efd36e937c3c680d", func := "loop.example/g01298/laws.FnExactAdjacencyOf", spec := "fnExactAdjacencyOf", plainKeys := false, apart := false }
def FnExactAdjacencyOfSaid : Prop := fnExactAdjacencyOfRow.holds Try.pinned (OpenSpec.ofChange fnExactAdjacencyOfSpec)

/-- ITS FALSE NEIGHBOUR: 'it returns false'. Refute it at one input. -/
def fnExactAdjacencyOfWrong : ChangeSpec := { name := "fnExactAdjacencyOf", fn := fun _ => fun
  | [d] => { results := [.lit (.bool false)], args := [d] }
  | _ => none }
def FnExactAdjacencyOfWrongFalsely : Prop := fnExactAdjacencyOfRow.holds Try.pinned (OpenSpec.ofChange fnExactAdjacencyOfWrong)

/-- 'laws.FnExactDeleteEdge': WHATEVER THE INPUT: true; the input reads as it did. -/
def fnExactDeleteEdgeSpec : ChangeSpec := { name := "fnExactDeleteEdge", fn := fun _ => fun
  | [d1, d2] => { results := [.lit (.bool true)], args := [d1, d2] }
  | _ => none }
def fnExactDeleteEdgeRow : OpenClaim := { program := "ytecobmmlpoaggaa", sum := "449fd15d933b5cbaff5d91a17b189561cc26dbba6a48df43efd36e937c3c680d", func := "loop.example/g01298/laws.FnExactDeleteEdge", spec := "fnExactDeleteEdge", plainKeys := false, apart := false }
def FnExactDeleteEdgeSaid : Prop := fnExactDeleteEdgeRow.holds Try.pinned (OpenSpec.ofChange fnExactDeleteEdgeSpec)

/-- ITS FALSE NEIGHBOUR: 'it returns false'. Refute it at one input. -/
def fnExactDeleteEdgeWrong : ChangeSpec := { name := "fnExactDeleteEdge", fn := fun _ => fun
  | [d1, d2] => { results := [.lit (.bool false)], args := [d1, d2] }
  | _ => none }
def FnExactDeleteEdgeWrongFalsely : Prop := fnExactDeleteEdgeRow.holds Try.pinned (OpenSpec.ofChange fnExactDeleteEdgeWrong)

/-- 'laws.FnExactContractEdge': WHATEVER THE INPUT: true; the input reads as it did. -/
def fnExactContractEdgeSpec : ChangeSpec := { name := "fnExactContractEdge", fn := fun _ => fun
  | [d1, d2] => { results := [.lit (.bool true)], args := [d1, d2] }
  | _ => none }
def fnExactContractEdgeRow : OpenClaim := { program := "ytecobmmlpoaggaa", sum := "449fd15d933b5cbaff5d91a17b189561cc26dbba6a48df43efd36e937c3c680d", func := "loop.example/g01298/laws.FnExactContractEdge", spec := "fnExactContractEdge", plainKeys := false, apart := false }
def FnExactContractEdgeSaid : Prop := fnExactContractEdgeRow.holds Try.pinned (OpenSpec.ofChange fnExactContractEdgeSpec)

/-- ITS FALSE NEIGHBOUR: 'it returns false'. Refute it at one input. -/
def fnExactContractEdgeWrong : ChangeSpec := { name := "fnExactContractEdge", fn := fun _ => fun
  | [d1, d2] => { results := [.lit (.bool false)], args := [d1, d2] }
  | _ => none }
def FnExactContractEdgeWrongFalsely : Prop := fnExactContractEdgeRow.holds Try.pinned (OpenSpec.ofChange fnExactContractEdgeWrong)

/-- 'laws.FnExactSubdivideEdge': WHATEVER THE INPUT: true; the input reads as it did. -/
def fnExactSubdivideEdgeSpec : ChangeSpec := { name := "fnExactSubdivideEdge", fn := fun _ => fun
  | [d1, d2] => { results := [.lit (.bool true)], args := [d1, d2] }
  | _ => none }
def fnExactSubdivideEdgeRow : OpenClaim := { program := "ytecobmmlpoaggaa", sum := "449fd15d933b5cbaff5d91a17b189561cc26dbba6a48df43efd36e937c3c680d", func := "loop.example/g01298/laws.FnExactSubdivideEdge", spec := "fnExactSubdivideEdge", plainKeys := false, apart := false }
def FnExactSubdivideEdgeSaid : Prop := fnExactSubdivideEdgeRow.holds Try.pinned (OpenSpec.ofChange fnExactSubdivideEdgeSpec)

/-- ITS FALSE NEIGHBOUR: 'it returns false'. Refute it at one input. -/
def fnExactSubdivideEdgeWrong : ChangeSpec := { name := "fnExactSubdivideEdge", fn := fun _ => fun
  | [d1, d2] => { results := [.lit (.bool false)], args := [d1, d2] }
  | _ => none }
def FnExactSubdivideEdgeWrongFalsely : Prop := fnExactSubdivideEdgeRow.holds Try.pinned (OpenSpec.ofChange fnExactSubdivideEdgeWrong)

/-- 'laws.FnExactGraphNames': WHATEVER THE INPUT: true; the input reads as it did. -/
def fnExactGraphNamesSpec : ChangeSpec := { name := "fnExactGraphNames", fn := fun _ => fun
  | [] => { results := [.lit (.bool true)], args := [] }
  | _ => none }
def fnExactGraphNamesRow : OpenClaim := { program := "ytecobmmlpoaggaa", sum := "449fd15d933b5cbaff5d91a17b189561cc26dbba6a48df43efd36e937c3c680d", func := "loop.example/g01298/laws.FnExactGraphNames", spec := "fnExactGraphNames", plainKeys := false, apart := false }
def FnExactGraphNamesSaid : Prop := fnExactGraphNamesRow.holds Try.pinned (OpenSpec.ofChange fnExactGraphNamesSpec)

/-- ITS FALSE NEIGHBOUR: 'it returns false'. Refute it at one input. -/
def fnExactGraphNamesWrong : ChangeSpec := { name := "fnExactGraphNames", fn := fun _ => fun
  | [] => { results := [.lit (.bool false)], args := [] }
  | _ => none }
def FnExactGraphNamesWrongFalsely : Prop := fnExactGraphNamesRow.holds Try.pinned (OpenSpec.ofChange fnExactGraphNamesWrong)

/-- 'laws.FnExactEdgeMatrix': WHATEVER THE INPUT: true; the input reads as it did. -/
def fnExactEdgeMatrixSpec : ChangeSpec := { name := "fnExactEdgeMatrix", fn := fun _ => fun
  | [d] => { results := [.lit (.bool true)], args := [d] }
  | _ => none }
def fnExactEdgeMatrixRow : OpenClaim := { program := "ytecobmmlpoaggaa", sum := "449fd15d933b5cbaff5d91a17b189561cc26dbba6a48df43efd36e937c3c680d", func := "loop.example/g01298/laws.FnExactEdgeMatrix", spec := "fnExactEdgeMatrix", plainKeys := false, apart := false }
def FnExactEdgeMatrixSaid : Prop := fnExactEdgeMatrixRow.holds Try.pinned (OpenSpec.ofChange fnExactEdgeMatrixSpec)

/-- ITS FALSE NEIGHBOUR: 'it returns false'. Refute it at one input. -/
def fnExactEdgeMatrixWrong : ChangeSpec := { name := "fnExactEdgeMatrix", fn := fun _ => fun
  | [d] => { results := [.lit (.bool false)], args := [d] }
  | _ => none }
def FnExactEdgeMatrixWrongFalsely : Prop := fnExactEdgeMatrixRow.holds Try.pinned (OpenSpec.ofChange fnExactEdgeMatrixWrong)

/-- 'laws.FnExactIsStraight': WHATEVER THE INPUT: true; the input reads as it did. -/
def fnExactIsStraightSpec : ChangeSpec := { name := "fnExactIsStraight", fn := fun _ => fun
  | [d1, d2] => { results := [.lit (.bool true)], args := [d1, d2] }
  | _ => none }
def fnExactIsStraightRow : OpenClaim := { program := "ytecobmmlpoaggaa", sum := "449fd15d933b5cbaff5d91a17b189561cc26dbba6a48df43efd36e937c3c680d", func := "loop.example/g01298/laws.FnExactIsStraight", spec := "fnExactIsStraight", plainKeys := false, apart := false }
def FnExactIsStraightSaid : Prop := fnExactIsStraightRow.holds Try.pinned (OpenSpec.ofChange fnExactIsStraightSpec)

/-- ITS FALSE NEIGHBOUR: 'it returns false'. Refute it at one input. -/
def fnExactIsStraightWrong : ChangeSpec := { name := "fnExactIsStraight", fn := fun _ => fun
  | [d1, d2] => { results := [.lit (.bool false)], args := [d1, d2] }
  | _ => none }
def FnExactIsStraightWrongFalsely : Prop := fnExactIsStraightRow.holds Try.pinned (OpenSpec.ofChange fnExactIsStraightWrong)

/-- 'laws.FnExactPruneGraph': WHATEVER THE INPUT: true; the input reads as it did. -/
def fnExactPruneGraphSpec : ChangeSpec := { name := "fnExactPruneGraph", fn := fun _ => fun
  | [d] => { results := [.lit (.bool true)], args := [d] }
  | _ => none }
def fnExactPruneGraphRow : OpenClaim := { program := "ytecobmmlpoaggaa", sum := "449fd15d933b5cbaff5d91a17b189561cc26dbba6a48df43efd36e937c3c680d", func := "loop.example/g01298/laws.FnExactPruneGraph", spec := "fnExactPruneGraph", plainKeys := false, apart := false }
def FnExactPruneGraphSaid : Prop := fnExactPruneGraphRow.holds Try.pinned (OpenSpec.ofChange fnExactPruneGraphSpec)

/-- ITS FALSE NEIGHBOUR: 'it returns false'. Refute it at one input. -/
def fnExactPruneGraphWrong : ChangeSpec := { name := "fnExactPruneGraph", fn := fun _ => fun
  | [d] => { results := [.lit (.bool false)], args := [d] }
  | _ => none }
def FnExactPruneGraphWrongFalsely : Prop := fnExactPruneGraphRow.holds Try.pinned (OpenSpec.ofChange fnExactPruneGraphWrong)

/-- 'laws.FnExactStraightCounts': WHATEVER THE INPUT: true; the input reads as it did. -/
def fnExactStraightCountsSpec : ChangeSpec := { name := "fnExactStraightCounts", fn := fun _ => fun
  | [d1, d2] => { results := [.lit (.bool true)], args := [d1, d2] }
  | _ => none }
def fnExactStraightCountsRow : OpenClaim := { program := "ytecobmmlpoaggaa", sum := "449fd15d933b5cbaff5d91a17b189561cc26dbba6a48df43efd36e937c3c680d", func := "loop.example/g01298/laws.FnExactStraightCounts", spec := "fnExactStraightCounts", plainKeys := false, apart := false }
def FnExactStraightCountsSaid : Prop := fnExactStraightCountsRow.holds Try.pinned (OpenSpec.ofChange fnExactStraightCountsSpec)

/-- ITS FALSE NEIGHBOUR: 'it returns false'. Refute it at one input. -/
def fnExactStraightCountsWrong : ChangeSpec := { name := "fnExactStraightCounts", fn := fun _ => fun
  | [d1, d2] => { results := [.lit (.bool false)], args := [d1, d2] }
  | _ => none }
def FnExactStraightCountsWrongFalsely : Prop := fnExactStraightCountsRow.holds Try.pinned (OpenSpec.ofChange fnExactStraightCountsWrong)

/-- 'laws.FnExactPrimeCounts': WHATEVER THE INPUT: true; the input reads as it did. -/
def fnExactPrimeCountsSpec : ChangeSpec := { name := "fnExactPrimeCounts", fn := fun _ => fun
  | [d1, d2] => { results := [.lit (.bool true)], args := [d1, d2] }
  | _ => none }
def fnExactPrimeCountsRow : OpenClaim := { program := "ytecobmmlpoaggaa", sum := "449fd15d933b5cbaff5d91a17b189561cc26dbba6a48df43efd36e937c3c680d", func := "loop.example/g01298/laws.FnExactPrimeCounts", spec := "fnExactPrimeCounts", plainKeys := false, apart := false }
def FnExactPrimeCountsSaid : Prop := fnExactPrimeCountsRow.holds Try.pinned (OpenSpec.ofChange fnExactPrimeCountsSpec)

/-- ITS FALSE NEIGHBOUR: 'it returns false'. Refute it at one input. -/
def fnExactPrimeCountsWrong : ChangeSpec := { name := "fnExactPrimeCounts", fn := fun _ => fun
  | [d1, d2] => { results := [.lit (.bool false)], args := [d1, d2] }
  | _ => none }
def FnExactPrimeCountsWrongFalsely : Prop := fnExactPrimeCountsRow.holds Try.pinned (OpenSpec.ofChange fnExactPrimeCountsWrong)

/-- 'laws.FnExactPartsOf': WHATEVER THE INPUT: true; the input reads as it did. -/
def fnExactPartsOfSpec : ChangeSpec := { name := "fnExactPartsOf", fn := fun _ => fun
  | [d] => { results := [.lit (.bool true)], args := [d] }
  | _ => none }
def fnExactPartsOfRow : OpenClaim := { program := "ytecobmmlpoaggaa", sum := "449fd15d933b5cbaff5d91a17b189561cc26dbba6a48df43efd36e937c3c680d", func := "loop.example/g01298/laws.FnExactPartsOf", spec := "fnExactPartsOf", plainKeys := false, apart := false }
def FnExactPartsOfSaid : Prop := fnExactPartsOfRow.holds Try.pinned (OpenSpec.ofChange fnExactPartsOfSpec)

/-- ITS FALSE NEIGHBOUR: 'it returns false'. Refute it at one input. -/
def fnExactPartsOfWrong : ChangeSpec := { name := "fnExactPartsOf", fn := fun _ => fun
  | [d] => { results := [.lit (.bool false)], args := [d] }
  | _ => none }
def FnExactPartsOfWrongFalsely : Prop := fnExactPartsOfRow.holds Try.pinned (OpenSpec.ofChange fnExactPartsOfWrong)

/-- 'laws.FnExactRankOf': WHATEVER THE INPUT: true; the input reads as it did. -/
def fnExactRankOfSpec : ChangeSpec := { name := "fnExactRankOf", fn := fun _ => fun
  | [d] => { results := [.lit (.bool true)], args := [d] }
  | _ => none }
def fnExactRankOfRow : OpenClaim := { program := "ytecobmmlpoaggaa", sum := "449fd15d933b5cbaff5d91a17b189561cc26dbba6a48df43efd36e937c3c680d", func := "loop.example/g01298/laws.FnExactRankOf", spec := "fnExactRankOf", plainKeys := false, apart := false }
def FnExactRankOfSaid : Prop := fnExactRankOfRow.holds Try.pinned (OpenSpec.ofChange fnExactRankOfSpec)

/-- ITS FALSE NEIGHBOUR: 'it returns false'. Refute it at one input. -/
def fnExactRankOfWrong : ChangeSpec := { name := "fnExactRankOf", fn := fun _ => fun
  | [d] => { results := [.lit (.bool false)], args := [d] }
  | _ => none }
def FnExactRankOfWrongFalsely : Prop := fnExactRankOfRow.holds Try.pinned (OpenSpec.ofChange fnExactRankOfWrong)

/- THE SECOND FORM. 'bulk': how many values and letters a reading holds, each counted each time it is reached (what is shared counts as often as it is met; a slice's spare places count too). A statement '..UptoSaid' is the law's where the arguments, and the package variables that the reading takes, are together of bulk at most 1048576: NARROWER than '..Said'. Prove '..Said' where nothing that the law and all that it calls make is longer than what came in: it says more and counts as full. Else prove '..UptoSaid'. A law counts once. -/
mutual
def uptoBulk {H : Type} : DataW H → Nat
  | .lit (.string bytes) => bytes.length + 1
  | .lit _ => 1
  | .nil => 1
  | .ptr d => uptoBulk d + 1
  | .slice elems spare => uptoBulkAll elems + uptoBulkAll spare + 1
  | .agg parts => uptoBulkAll parts + 1
  | .iface _ d => uptoBulk d + 1
  | .map entries => uptoBulkEntries entries + 1
  | .held _ => 1
def uptoBulkAll {H : Type} : List (DataW H) → Nat
  | [] => 0
  | d :: r => uptoBulk d + uptoBulkAll r
def uptoBulkEntries {H : Type} : List (Lit × DataW H) → Nat
  | [] => 0
  | x :: r => uptoBulkEntry x + uptoBulkEntries r
def uptoBulkEntry {H : Type} : Lit × DataW H → Nat
  | (.string bytes, d) => bytes.length + uptoBulk d + 1
  | (_, d) => uptoBulk d + 1
 end
def uptoSmall : (H : Type) → List (DataW H) → Bool := fun _ ds => decide (uptoBulkAll ds ≤ 1048576)
def OpenSpec.upto (s : _root_.Go.ChangeSpec) : _root_.Go.OpenSpec := { _root_.Go.OpenSpec.ofChange s with cond := some uptoSmall }

/-- 'laws.FnExactIsBipartite', WHERE WHAT IT READS IS OF BULK AT MOST 1048576: true; the input reads as it did. -/
def fnExactIsBipartiteUptoRow : OpenClaim := { program := "ytecobmmlpoaggaa", sum := "449fd15d933b5cbaff5d91a17b189561cc26dbba6a48df43efd36e937c3c680d", func := "loop.example/g01298/laws.FnExactIsBipartite", spec := "fnExactIsBipartite", plainKeys := false, apart := false, narrowed := true }
def FnExactIsBipartiteUptoSaid : Prop := fnExactIsBipartiteUptoRow.holds Try.pinned (OpenSpec.upto fnExactIsBipartiteSpec)

/-- 'laws.FnExactAdjacencyOf', WHERE WHAT IT READS IS OF BULK AT MOST 1048576: true; the input reads as it did. -/
def fnExactAdjacencyOfUptoRow : OpenClaim := { program := "ytecobmmlpoaggaa", sum := "449fd15d933b5cbaff5d91a17b189561cc26dbba6a48df43efd36e937c3c680d", func := "loop.example/g01298/laws.FnExactAdjacencyOf", spec := "fnExactAdjacencyOf", plainKeys := false, apart := false, narrowed := true }
def FnExactAdjacencyOfUptoSaid : Prop := fnExactAdjacencyOfUptoRow.holds Try.pinned (OpenSpec.upto fnExactAdjacencyOfSpec)

/-- 'laws.FnExactDeleteEdge', WHERE WHAT IT READS IS OF BULK AT MOST 1048576: true; the input reads as it did. -/
def fnExactDeleteEdgeUptoRow : OpenClaim := { program := "ytecobmmlpoaggaa", sum := "449fd15d933b5cbaff5d91a17b189561cc26dbba6a48df43efd36e937c3c680d", func := "loop.example/g01298/laws.FnExactDeleteEdge", spec := "fnExactDeleteEdge", plainKeys := false, apart := false, narrowed := true }
def FnExactDeleteEdgeUptoSaid : Prop := fnExactDeleteEdgeUptoRow.holds Try.pinned (OpenSpec.upto fnExactDeleteEdgeSpec)

/-- 'laws.FnExactContractEdge', WHERE WHAT IT READS IS OF BULK AT MOST 1048576: true; the input reads as it did. -/
def fnExactContractEdgeUptoRow : OpenClaim := { program := "ytecobmmlpoaggaa", sum := "449fd15d933b5cbaff5d91a17b189561cc26dbba6a48df43efd36e937c3c680d", func := "loop.example/g01298/laws.FnExactContractEdge", spec := "fnExactContractEdge", plainKeys := false, apart := false, narrowed := true }
def FnExactContractEdgeUptoSaid : Prop := fnExactContractEdgeUptoRow.holds Try.pinned (OpenSpec.upto fnExactContractEdgeSpec)

/-- 'laws.FnExactSubdivideEdge', WHERE WHAT IT READS IS OF BULK AT MOST 1048576: true; the input reads as it did. -/
def fnExactSubdivideEdgeUptoRow : OpenClaim := { program := "ytecobmmlpoaggaa", sum := "449fd15d933b5cbaff5d91a17b189561cc26dbba6a48df43efd36e937c3c680d", func := "loop.example/g01298/laws.FnExactSubdivideEdge", spec := "fnExactSubdivideEdge", plainKeys := false, apart := false, narrowed := true }
def FnExactSubdivideEdgeUptoSaid : Prop := fnExactSubdivideEdgeUptoRow.holds Try.pinned (OpenSpec.upto fnExactSubdivideEdgeSpec)

/-- 'laws.FnExactGraphNames', WHERE WHAT IT READS IS OF BULK AT MOST 1048576: true; the input reads as it did. -/
def fnExactGraphNamesUptoRow : OpenClaim := { program := "ytecobmmlpoaggaa", sum := "449fd15d933b5cbaff5d91a17b189561cc26dbba6a48df43efd36e937c3c680d", func := "loop.example/g01298/laws.FnExactGraphNames", spec := "fnExactGraphNames", plainKeys := false, apart := false, narrowed := true }
def FnExactGraphNamesUptoSaid : Prop := fnExactGraphNamesUptoRow.holds Try.pinned (OpenSpec.upto fnExactGraphNamesSpec)

/-- 'laws.FnExactEdgeMatrix', WHERE WHAT IT READS IS OF BULK AT MOST 1048576: true; the input reads as it did. -/
def fnExactEdgeMatrixUptoRow : OpenClaim := { program := "ytecobmmlpoaggaa", sum := "449fd15d933b5cbaff5d91a17b189561cc26dbba6a48df43efd36e937c3c680d", func := "loop.example/g01298/laws.FnExactEdgeMatrix", spec := "fnExactEdgeMatrix", plainKeys := false, apart := false, narrowed := true }
def FnExactEdgeMatrixUptoSaid : Prop := fnExactEdgeMatrixUptoRow.holds Try.pinned (OpenSpec.upto fnExactEdgeMatrixSpec)

/-- 'laws.FnExactIsStraight', WHERE WHAT IT READS IS OF BULK AT MOST 1048576: true; the input reads as it did. -/
def fnExactIsStraightUptoRow : OpenClaim := { program := "ytecobmmlpoaggaa", sum := "449fd15d933b5cbaff5d91a17b189561cc26dbba6a48df43efd36e937c3c680d", func := "loop.example/g01298/laws.FnExactIsStraight", spec := "fnExactIsStraight", plainKeys := false, apart := false, narrowed := true }
def FnExactIsStraightUptoSaid : Prop := fnExactIsStraightUptoRow.holds Try.pinned (OpenSpec.upto fnExactIsStraightSpec)

/-- 'laws.FnExactPruneGraph', WHERE WHAT IT READS IS OF BULK AT MOST 1048576: true; the input reads as it did. -/
def fnExactPruneGraphUptoRow : OpenClaim := { program := "ytecobmmlpoaggaa", sum := "449fd15d933b5cbaff5d91a17b189561cc26dbba6a48df43efd36e937c3c680d", func := "loop.example/g01298/laws.FnExactPruneGraph", spec := "fnExactPruneGraph", plainKeys := false, apart := false, narrowed := true }
def FnExactPruneGraphUptoSaid : Prop := fnExactPruneGraphUptoRow.holds Try.pinned (OpenSpec.upto fnExactPruneGraphSpec)

/-- 'laws.FnExactStraightCounts', WHERE WHAT IT READS IS OF BULK AT MOST 1048576: true; the input reads as it did. -/
def fnExactStraightCountsUptoRow : OpenClaim := { program := "ytecobmmlpoaggaa", sum := "449fd15d933b5cbaff5d91a17b189561cc26dbba6a48df43efd36e937c3c680d", func := "loop.example/g01298/laws.FnExactStraightCounts", spec := "fnExactStraightCounts", plainKeys := false, apart := false, narrowed := true }
def FnExactStraightCountsUptoSaid : Prop := fnExactStraightCountsUptoRow.holds Try.pinned (OpenSpec.upto fnExactStraightCountsSpec)

/-- 'laws.FnExactPrimeCounts', WHERE WHAT IT READS IS OF BULK AT MOST 1048576: true; the input reads as it did. -/
def fnExactPrimeCountsUptoRow : OpenClaim := { program := "ytecobmmlpoaggaa", sum := "449fd15d933b5cbaff5d91a17b189561cc26dbba6a48df43efd36e937c3c680d", func := "loop.example/g01298/laws.FnExactPrimeCounts", spec := "fnExactPrimeCounts", plainKeys := false, apart := false, narrowed := true }
def FnExactPrimeCountsUptoSaid : Prop := fnExactPrimeCountsUptoRow.holds Try.pinned (OpenSpec.upto fnExactPrimeCountsSpec)

/-- 'laws.FnExactPartsOf', WHERE WHAT IT READS IS OF BULK AT MOST 1048576: true; the input reads as it did. -/
def fnExactPartsOfUptoRow : OpenClaim := { program := "ytecobmmlpoaggaa", sum := "449fd15d933b5cbaff5d91a17b189561cc26dbba6a48df43efd36e937c3c680d", func := "loop.example/g01298/laws.FnExactPartsOf", spec := "fnExactPartsOf", plainKeys := false, apart := false, narrowed := true }
def FnExactPartsOfUptoSaid : Prop := fnExactPartsOfUptoRow.holds Try.pinned (OpenSpec.upto fnExactPartsOfSpec)

/-- 'laws.FnExactRankOf', WHERE WHAT IT READS IS OF BULK AT MOST 1048576: true; the input reads as it did. -/
def fnExactRankOfUptoRow : OpenClaim := { program := "ytecobmmlpoaggaa", sum := "449fd15d933b5cbaff5d91a17b189561cc26dbba6a48df43efd36e937c3c680d", func := "loop.example/g01298/laws.FnExactRankOf", spec := "fnExactRankOf", plainKeys := false, apart := false, narrowed := true }
def FnExactRankOfUptoSaid : Prop := fnExactRankOfUptoRow.holds Try.pinned (OpenSpec.upto fnExactRankOfSpec)

end Rows
end Go.Proofs.Ytecobmmlpoaggaa
