/-
  No cell of these rows narrows 'for every input' (looked for: loops, veiled, ifaces, maps, wideKeys, modest, calm, conditions, laid).
  DERIVED. THE GIVEN ROWS OF THIS SEAT. 11 by the template 'for every input the law returns true; each argument reads behind the call as it read before'; 0 by the template 'total and deterministic' (their statements: YtkipfjdlmomkfaaTotals.lean).
  GIVEN WITH THE SEED: the statements are not yours to turn. If you find one false, say at which input.
  Laid BY PROGRAM, IN A SANDBOX (cutbox-rows.mjs): the forced cells as the released guide's own fill.sh prints them over the translation 1f39d1d9c14fcaa7… (all of the seat's roots in one cut). By AI agents, Wed Nov 11 2026. No macro, syntax, notation, axiom, sorry.
-/
import Derived.Test.YtkipfjdlmomkfaaChecked
import GoSem.Claim
import GoSem.ClaimJoined
import GoSem.ClaimMapViews
import Derived.JoinedTies
import Derived.KernelRfl
namespace Go.Proofs.Ytkipfjdlmomkfaa
/- THE CELL 'sum', in the pinned program and in every row, IS THE sha256 OF THE DUMP (.gsa) THAT YtkipfjdlmomkfaaProg.lean LOADS. Nothing in Lean hashes anything: it is a label: what it is worth is what the hold of that sum in a sandbox is worth. -/
noncomputable def Try.pinned : Pinned := { name := "ytkipfjdlmomkfaa", sum := "1f39d1d9c14fcaa7a309de6c41edfaea791badfb3606aa7a6dbf278782bbdd12", checked := Try.checked }
namespace Rows
def none {H : Type} : Left H := { results := [], args := [] }

/-- 'laws.FnExactLaplacianRows': WHATEVER THE INPUT: true; the input reads as it did. -/
def fnExactLaplacianRowsSpec : ChangeSpec := { name := "fnExactLaplacianRows", fn := fun _ => fun
  | [d] => { results := [.lit (.bool true)], args := [d] }
  | _ => none }
def fnExactLaplacianRowsRow : OpenClaim := { program := "ytkipfjdlmomkfaa", sum := "1f39d1d9c14fcaa7a309de6c41edfaea791badfb3606aa7a6dbf278782bbdd12", func := "loop.example/g01298/laws.FnExactLaplacianRows", spec := "fnExactLaplacianRows", plainKeys := false, apart := false }
def FnExactLaplacianRowsSaid : Prop := fnExactLaplacianRowsRow.holds Try.pinned (OpenSpec.ofChange fnExactLaplacianRowsSpec)

/-- ITS FALSE NEIGHBOUR: 'it returns false'. Refute it at one input. -/
def fnExactLaplacianRowsWrong : ChangeSpec := { name := "fnExactLaplacianRows", fn := fun _ => fun
  | [d] => { results := [.lit (.bool false)], args := [d] }
  | _ => none }
def FnExactLaplacianRowsWrongFalsely : Prop := fnExactLaplacianRowsRow.holds Try.pinned (OpenSpec.ofChange fnExactLaplacianRowsWrong)

/-- 'laws.FnExactIsTree': WHATEVER THE INPUT: true; the input reads as it did. -/
def fnExactIsTreeSpec : ChangeSpec := { name := "fnExactIsTree", fn := fun _ => fun
  | [d1, d2] => { results := [.lit (.bool true)], args := [d1, d2] }
  | _ => none }
def fnExactIsTreeRow : OpenClaim := { program := "ytkipfjdlmomkfaa", sum := "1f39d1d9c14fcaa7a309de6c41edfaea791badfb3606aa7a6dbf278782bbdd12", func := "loop.example/g01298/laws.FnExactIsTree", spec := "fnExactIsTree", plainKeys := false, apart := false }
def FnExactIsTreeSaid : Prop := fnExactIsTreeRow.holds Try.pinned (OpenSpec.ofChange fnExactIsTreeSpec)

/-- ITS FALSE NEIGHBOUR: 'it returns false'. Refute it at one input. -/
def fnExactIsTreeWrong : ChangeSpec := { name := "fnExactIsTree", fn := fun _ => fun
  | [d1, d2] => { results := [.lit (.bool false)], args := [d1, d2] }
  | _ => none }
def FnExactIsTreeWrongFalsely : Prop := fnExactIsTreeRow.holds Try.pinned (OpenSpec.ofChange fnExactIsTreeWrong)

/-- 'laws.FnExactSubsetRank': WHATEVER THE INPUT: true; the input reads as it did. -/
def fnExactSubsetRankSpec : ChangeSpec := { name := "fnExactSubsetRank", fn := fun _ => fun
  | [d1, d2] => { results := [.lit (.bool true)], args := [d1, d2] }
  | _ => none }
def fnExactSubsetRankRow : OpenClaim := { program := "ytkipfjdlmomkfaa", sum := "1f39d1d9c14fcaa7a309de6c41edfaea791badfb3606aa7a6dbf278782bbdd12", func := "loop.example/g01298/laws.FnExactSubsetRank", spec := "fnExactSubsetRank", plainKeys := false, apart := false }
def FnExactSubsetRankSaid : Prop := fnExactSubsetRankRow.holds Try.pinned (OpenSpec.ofChange fnExactSubsetRankSpec)

/-- ITS FALSE NEIGHBOUR: 'it returns false'. Refute it at one input. -/
def fnExactSubsetRankWrong : ChangeSpec := { name := "fnExactSubsetRank", fn := fun _ => fun
  | [d1, d2] => { results := [.lit (.bool false)], args := [d1, d2] }
  | _ => none }
def FnExactSubsetRankWrongFalsely : Prop := fnExactSubsetRankRow.holds Try.pinned (OpenSpec.ofChange fnExactSubsetRankWrong)

/-- 'laws.FnExactTypeOfWalk': WHATEVER THE INPUT: true; the input reads as it did. -/
def fnExactTypeOfWalkSpec : ChangeSpec := { name := "fnExactTypeOfWalk", fn := fun _ => fun
  | [d1, d2] => { results := [.lit (.bool true)], args := [d1, d2] }
  | _ => none }
def fnExactTypeOfWalkRow : OpenClaim := { program := "ytkipfjdlmomkfaa", sum := "1f39d1d9c14fcaa7a309de6c41edfaea791badfb3606aa7a6dbf278782bbdd12", func := "loop.example/g01298/laws.FnExactTypeOfWalk", spec := "fnExactTypeOfWalk", recurses := true, plainKeys := false, apart := false }
def FnExactTypeOfWalkSaid : Prop := fnExactTypeOfWalkRow.holds Try.pinned (OpenSpec.ofChange fnExactTypeOfWalkSpec)

/-- ITS FALSE NEIGHBOUR: 'it returns false'. Refute it at one input. -/
def fnExactTypeOfWalkWrong : ChangeSpec := { name := "fnExactTypeOfWalk", fn := fun _ => fun
  | [d1, d2] => { results := [.lit (.bool false)], args := [d1, d2] }
  | _ => none }
def FnExactTypeOfWalkWrongFalsely : Prop := fnExactTypeOfWalkRow.holds Try.pinned (OpenSpec.ofChange fnExactTypeOfWalkWrong)

/-- 'laws.FnExactPermutationOfWalk': WHATEVER THE INPUT: true; the input reads as it did. -/
def fnExactPermutationOfWalkSpec : ChangeSpec := { name := "fnExactPermutationOfWalk", fn := fun _ => fun
  | [d1, d2] => { results := [.lit (.bool true)], args := [d1, d2] }
  | _ => none }
def fnExactPermutationOfWalkRow : OpenClaim := { program := "ytkipfjdlmomkfaa", sum := "1f39d1d9c14fcaa7a309de6c41edfaea791badfb3606aa7a6dbf278782bbdd12", func := "loop.example/g01298/laws.FnExactPermutationOfWalk", spec := "fnExactPermutationOfWalk", recurses := true, plainKeys := false, apart := false }
def FnExactPermutationOfWalkSaid : Prop := fnExactPermutationOfWalkRow.holds Try.pinned (OpenSpec.ofChange fnExactPermutationOfWalkSpec)

/-- ITS FALSE NEIGHBOUR: 'it returns false'. Refute it at one input. -/
def fnExactPermutationOfWalkWrong : ChangeSpec := { name := "fnExactPermutationOfWalk", fn := fun _ => fun
  | [d1, d2] => { results := [.lit (.bool false)], args := [d1, d2] }
  | _ => none }
def FnExactPermutationOfWalkWrongFalsely : Prop := fnExactPermutationOfWalkRow.holds Try.pinned (OpenSpec.ofChange fnExactPermutationOfWalkWrong)

/-- 'laws.FnExactIsCover': WHATEVER THE INPUT: true; the input reads as it did. -/
def fnExactIsCoverSpec : ChangeSpec := { name := "fnExactIsCover", fn := fun _ => fun
  | [d] => { results := [.lit (.bool true)], args := [d] }
  | _ => none }
def fnExactIsCoverRow : OpenClaim := { program := "ytkipfjdlmomkfaa", sum := "1f39d1d9c14fcaa7a309de6c41edfaea791badfb3606aa7a6dbf278782bbdd12", func := "loop.example/g01298/laws.FnExactIsCover", spec := "fnExactIsCover", recurses := true, plainKeys := false, apart := false }
def FnExactIsCoverSaid : Prop := fnExactIsCoverRow.holds Try.pinned (OpenSpec.ofChange fnExactIsCoverSpec)

/-- ITS FALSE NEIGHBOUR: 'it returns false'. Refute it at one input. -/
def fnExactIsCoverWrong : ChangeSpec := { name := "fnExactIsCover", fn := fun _ => fun
  | [d] => { results := [.lit (.bool false)], args := [d] }
  | _ => none }
def FnExactIsCoverWrongFalsely : Prop := fnExactIsCoverRow.holds Try.pinned (OpenSpec.ofChange fnExactIsCoverWrong)

/-- 'laws.FnExactDerivedGraph': WHATEVER THE INPUT: true; the input reads as it did. -/
def fnExactDerivedGraphSpec : ChangeSpec := { name := "fnExactDerivedGraph", fn := fun _ => fun
  | [d] => { results := [.lit (.bool true)], args := [d] }
  | _ => none }
def fnExactDerivedGraphRow : OpenClaim := { program := "ytkipfjdlmomkfaa", sum := "1f39d1d9c14fcaa7a309de6c41edfaea791badfb3606aa7a6dbf278782bbdd12", func := "loop.example/g01298/laws.FnExactDerivedGraph", spec := "fnExactDerivedGraph", recurses := true, plainKeys := false, apart := false }
def FnExactDerivedGraphSaid : Prop := fnExactDerivedGraphRow.holds Try.pinned (OpenSpec.ofChange fnExactDerivedGraphSpec)

/-- ITS FALSE NEIGHBOUR: 'it returns false'. Refute it at one input. -/
def fnExactDerivedGraphWrong : ChangeSpec := { name := "fnExactDerivedGraph", fn := fun _ => fun
  | [d] => { results := [.lit (.bool false)], args := [d] }
  | _ => none }
def FnExactDerivedGraphWrongFalsely : Prop := fnExactDerivedGraphRow.holds Try.pinned (OpenSpec.ofChange fnExactDerivedGraphWrong)

/-- 'laws.FnExactIsConnectedCover': WHATEVER THE INPUT: true; the input reads as it did. -/
def fnExactIsConnectedCoverSpec : ChangeSpec := { name := "fnExactIsConnectedCover", fn := fun _ => fun
  | [d] => { results := [.lit (.bool true)], args := [d] }
  | _ => none }
def fnExactIsConnectedCoverRow : OpenClaim := { program := "ytkipfjdlmomkfaa", sum := "1f39d1d9c14fcaa7a309de6c41edfaea791badfb3606aa7a6dbf278782bbdd12", func := "loop.example/g01298/laws.FnExactIsConnectedCover", spec := "fnExactIsConnectedCover", recurses := true, plainKeys := false, apart := false }
def FnExactIsConnectedCoverSaid : Prop := fnExactIsConnectedCoverRow.holds Try.pinned (OpenSpec.ofChange fnExactIsConnectedCoverSpec)

/-- ITS FALSE NEIGHBOUR: 'it returns false'. Refute it at one input. -/
def fnExactIsConnectedCoverWrong : ChangeSpec := { name := "fnExactIsConnectedCover", fn := fun _ => fun
  | [d] => { results := [.lit (.bool false)], args := [d] }
  | _ => none }
def FnExactIsConnectedCoverWrongFalsely : Prop := fnExactIsConnectedCoverRow.holds Try.pinned (OpenSpec.ofChange fnExactIsConnectedCoverWrong)

/-- 'laws.FnExactIsPrimeWalk': WHATEVER THE INPUT: true; the input reads as it did. -/
def fnExactIsPrimeWalkSpec : ChangeSpec := { name := "fnExactIsPrimeWalk", fn := fun _ => fun
  | [d1, d2] => { results := [.lit (.bool true)], args := [d1, d2] }
  | _ => none }
def fnExactIsPrimeWalkRow : OpenClaim := { program := "ytkipfjdlmomkfaa", sum := "1f39d1d9c14fcaa7a309de6c41edfaea791badfb3606aa7a6dbf278782bbdd12", func := "loop.example/g01298/laws.FnExactIsPrimeWalk", spec := "fnExactIsPrimeWalk", unfollowed := true, recurses := true, plainKeys := false, apart := false }
def FnExactIsPrimeWalkSaid : Prop := fnExactIsPrimeWalkRow.holds Try.pinned (OpenSpec.ofChange fnExactIsPrimeWalkSpec)

/-- ITS FALSE NEIGHBOUR: 'it returns false'. Refute it at one input. -/
def fnExactIsPrimeWalkWrong : ChangeSpec := { name := "fnExactIsPrimeWalk", fn := fun _ => fun
  | [d1, d2] => { results := [.lit (.bool false)], args := [d1, d2] }
  | _ => none }
def FnExactIsPrimeWalkWrongFalsely : Prop := fnExactIsPrimeWalkRow.holds Try.pinned (OpenSpec.ofChange fnExactIsPrimeWalkWrong)

/-- 'laws.FnExactLeastTurn': WHATEVER THE INPUT: true; the input reads as it did. -/
def fnExactLeastTurnSpec : ChangeSpec := { name := "fnExactLeastTurn", fn := fun _ => fun
  | [d1, d2] => { results := [.lit (.bool true)], args := [d1, d2] }
  | _ => none }
def fnExactLeastTurnRow : OpenClaim := { program := "ytkipfjdlmomkfaa", sum := "1f39d1d9c14fcaa7a309de6c41edfaea791badfb3606aa7a6dbf278782bbdd12", func := "loop.example/g01298/laws.FnExactLeastTurn", spec := "fnExactLeastTurn", unfollowed := true, recurses := true, plainKeys := false, apart := false }
def FnExactLeastTurnSaid : Prop := fnExactLeastTurnRow.holds Try.pinned (OpenSpec.ofChange fnExactLeastTurnSpec)

/-- ITS FALSE NEIGHBOUR: 'it returns false'. Refute it at one input. -/
def fnExactLeastTurnWrong : ChangeSpec := { name := "fnExactLeastTurn", fn := fun _ => fun
  | [d1, d2] => { results := [.lit (.bool false)], args := [d1, d2] }
  | _ => none }
def FnExactLeastTurnWrongFalsely : Prop := fnExactLeastTurnRow.holds Try.pinned (OpenSpec.ofChange fnExactLeastTurnWrong)

/-- 'laws.FnExactPartsOf': WHATEVER THE INPUT: true; the input reads as it did. -/
def fnExactPartsOfSpec : ChangeSpec := { name := "fnExactPartsOf", fn := fun _ => fun
  | [d] => { results := [.lit (.bool true)], args := [d] }
  | _ => none }
def fnExactPartsOfRow : OpenClaim := { program := "ytkipfjdlmomkfaa", sum := "1f39d1d9c14fcaa7a309de6c41edfaea791badfb3606aa7a6dbf278782bbdd12", func := "loop.example/g01298/laws.FnExactPartsOf", spec := "fnExactPartsOf", plainKeys := false, apart := false }
def FnExactPartsOfSaid : Prop := fnExactPartsOfRow.holds Try.pinned (OpenSpec.ofChange fnExactPartsOfSpec)

/-- ITS FALSE NEIGHBOUR: 'it returns false'. Refute it at one input. -/
def fnExactPartsOfWrong : ChangeSpec := { name := "fnExactPartsOf", fn := fun _ => fun
  | [d] => { results := [.lit (.bool false)], args := [d] }
  | _ => none }
def FnExactPartsOfWrongFalsely : Prop := fnExactPartsOfRow.holds Try.pinned (OpenSpec.ofChange fnExactPartsOfWrong)

/- THE SECOND FORM. 'bulk': how many values and letters a reading holds, each counted each time it is reached (what is shared counts as often as it is met; a slice's spare places count too). A statement '..UptoSaid' is the law's where the arguments, and the package variables that the reading takes, are together of bulk at most 1048576: NARROWER than '..Said'. Prove '..Said' where nothing that the law and all that it calls make is longer than what came in: it says more and counts as full. Else prove '..UptoSaid'. A law counts once. -/
mutual
def uptoBulk {H : Type} : DataW H → Nat
  | .lit (.string bytes) => bytes.length + 1
  | .lit _ => 1
  | .nil => 1
  | .ptr d => uptoBulk d + 1
  | .slice elems spare => uptoBulkAll elems + uptoBulkAll spare + 1
  | .agg parts => uptoBulkAll parts + 1
  | .iface _ d => uptoBulk d + 1
  | .map entries => uptoBulkEntries entries + 1
  | .held _ => 1
def uptoBulkAll {H : Type} : List (DataW H) → Nat
  | [] => 0
  | d :: r => uptoBulk d + uptoBulkAll r
def uptoBulkEntries {H : Type} : List (Lit × DataW H) → Nat
  | [] => 0
  | x :: r => uptoBulkEntry x + uptoBulkEntries r
def uptoBulkEntry {H : Type} : Lit × DataW H → Nat
  | (.string bytes, d) => bytes.length + uptoBulk d + 1
  | (_, d) => uptoBulk d + 1
 end
def uptoSmall : (H : Type) → List (DataW H) → Bool := fun _ ds => decide (uptoBulkAll ds ≤ 1048576)
def OpenSpec.upto (s : _root_.Go.ChangeSpec) : _root_.Go.OpenSpec := { _root_.Go.OpenSpec.ofChange s with cond := some uptoSmall }

/-- 'laws.FnExactLaplacianRows', WHERE WHAT IT READS IS OF BULK AT MOST 1048576: true; the input reads as it did. -/
def fnExactLaplacianRowsUptoRow : OpenClaim := { program := "ytkipfjdlmomkfaa", sum := "1f39d1d9c14fcaa7a309de6c41edfaea791badfb3606aa7a6dbf278782bbdd12", func := "loop.example/g01298/laws.FnExactLaplacianRows", spec := "fnExactLaplacianRows", plainKeys := false, apart := false, narrowed := true }
def FnExactLaplacianRowsUptoSaid : Prop := fnExactLaplacianRowsUptoRow.holds Try.pinned (OpenSpec.upto fnExactLaplacianRowsSpec)

/-- 'laws.FnExactIsTree', WHERE WHAT IT READS IS OF BULK AT MOST 1048576: true; the input reads as it did. -/
def fnExactIsTreeUptoRow : OpenClaim := { program := "ytkipfjdlmomkfaa", sum := "1f39d1d9c14fcaa7a309de6c41edfaea791badfb3606aa7a6dbf278782bbdd12", func := "loop.example/g01298/laws.FnExactIsTree", spec := "fnExactIsTree", plainKeys := false, apart := false, narrowed := true }
def FnExactIsTreeUptoSaid : Prop := fnExactIsTreeUptoRow.holds Try.pinned (OpenSpec.upto fnExactIsTreeSpec)

/-- 'laws.FnExactSubsetRank', WHERE WHAT IT READS IS OF BULK AT MOST 1048576: true; the input reads as it did. -/
def fnExactSubsetRankUptoRow : OpenClaim := { program := "ytkipfjdlmomkfaa", sum := "1f39d1d9c14fcaa7a309de6c41edfaea791badfb3606aa7a6dbf278782bbdd12", func := "loop.example/g01298/laws.FnExactSubsetRank", spec := "fnExactSubsetRank", plainKeys := false, apart := false, narrowed := true }
def FnExactSubsetRankUptoSaid : Prop := fnExactSubsetRankUptoRow.holds Try.pinned (OpenSpec.upto fnExactSubsetRankSpec)

/-- 'laws.FnExactTypeOfWalk', WHERE WHAT IT READS IS OF BULK AT MOST 1048576: true; the input reads as it did. -/
def fnExactTypeOfWalkUptoRow : OpenClaim := { program := "ytkipfjdlmomkfaa", sum := "1f39d1d9c14fcaa7a309de6c41edfaea791badfb3606aa7a6dbf278782bbdd12", func := "loop.example/g01298/laws.FnExactTypeOfWalk", spec := "fnExactTypeOfWalk", recurses := true, plainKeys := false, apart := false, narrowed := true }
def FnExactTypeOfWalkUptoSaid : Prop := fnExactTypeOfWalkUptoRow.holds Try.pinned (OpenSpec.upto fnExactTypeOfWalkSpec)

/-- 'laws.FnExactPermutationOfWalk', WHERE WHAT IT READS IS OF BULK AT MOST 1048576: true; the input reads as it did. -/
def fnExactPermutationOfWalkUptoRow : OpenClaim := { program := "ytkipfjdlmomkfaa", sum := "1f39d1d9c14fcaa7a309de6c41edfaea791badfb3606aa7a6dbf278782bbdd12", func := "loop.example/g01298/laws.FnExactPermutationOfWalk", spec := "fnExactPermutationOfWalk", recurses := true, plainKeys := false, apart := false, narrowed := true }
def FnExactPermutationOfWalkUptoSaid : Prop := fnExactPermutationOfWalkUptoRow.holds Try.pinned (OpenSpec.upto fnExactPermutationOfWalkSpec)

/-- 'laws.FnExactIsCover', WHERE WHAT IT READS IS OF BULK AT MOST 1048576: true; the input reads as it did. -/
def fnExactIsCoverUptoRow : OpenClaim := { program := "ytkipfjdlmomkfaa", sum := "1f39d1d9c14fcaa7a309de6c41edfaea791badfb3606aa7a6dbf278782bbdd12", func := "loop.example/g01298/laws.FnExactIsCover", spec := "fnExactIsCover", recurses := true, plainKeys := false, apart := false, narrowed := true }
def FnExactIsCoverUptoSaid : Prop := fnExactIsCoverUptoRow.holds Try.pinned (OpenSpec.upto fnExactIsCoverSpec)

/-- 'laws.FnExactDerivedGraph', WHERE WHAT IT READS IS OF BULK AT MOST 1048576: true; the input reads as it did. -/
def fnExactDerivedGraphUptoRow : OpenClaim := { program := "ytkipfjdlmomkfaa", sum := "1f39d1d9c14fcaa7a309de6c41edfaea791badfb3606aa7a6dbf278782bbdd12", func := "loop.example/g01298/laws.FnExactDerivedGraph", spec := "fnExactDerivedGraph", recurses := true, plainKeys := false, apart := false, narrowed := true }
def FnExactDerivedGraphUptoSaid : Prop := fnExactDerivedGraphUptoRow.holds Try.pinned (OpenSpec.upto fnExactDerivedGraphSpec)

/-- 'laws.FnExactIsConnectedCover', WHERE WHAT IT READS IS OF BULK AT MOST 1048576: true; the input reads as it did. -/
def fnExactIsConnectedCoverUptoRow : OpenClaim := { program := "ytkipfjdlmomkfaa", sum := "1f39d1d9c14fcaa7a309de6c41edfaea791badfb3606aa7a6dbf278782bbdd12", func := "loop.example/g01298/laws.FnExactIsConnectedCover", spec := "fnExactIsConnectedCover", recurses := true, plainKeys := false, apart := false, narrowed := true }
def FnExactIsConnectedCoverUptoSaid : Prop := fnExactIsConnectedCoverUptoRow.holds Try.pinned (OpenSpec.upto fnExactIsConnectedCoverSpec)

/-- 'laws.FnExactIsPrimeWalk', WHERE WHAT IT READS IS OF BULK AT MOST 1048576: true; the input reads as it did. -/
def fnExactIsPrimeWalkUptoRow : OpenClaim := { program := "ytkipfjdlmomkfaa", sum := "1f39d1d9c14fcaa7a309de6c41edfaea791badfb3606aa7a6dbf278782bbdd12", func := "loop.example/g01298/laws.FnExactIsPrimeWalk", spec := "fnExactIsPrimeWalk", unfollowed := true, recurses := true, plainKeys := false, apart := false, narrowed := true }
def FnExactIsPrimeWalkUptoSaid : Prop := fnExactIsPrimeWalkUptoRow.holds Try.pinned (OpenSpec.upto fnExactIsPrimeWalkSpec)

/-- 'laws.FnExactLeastTurn', WHERE WHAT IT READS IS OF BULK AT MOST 1048576: true; the input reads as it did. -/
def fnExactLeastTurnUptoRow : OpenClaim := { program := "ytkipfjdlmomkfaa", sum := "1f39d1d9c14fcaa7a309de6c41edfaea791badfb3606aa7a6dbf278782bbdd12", func := "loop.example/g01298/laws.FnExactLeastTurn", spec := "fnExactLeastTurn", unfollowed := true, recurses := true, plainKeys := false, apart := false, narrowed := true }
def FnExactLeastTurnUptoSaid : Prop := fnExactLeastTurnUptoRow.holds Try.pinned (OpenSpec.upto fnExactLeastTurnSpec)

/-- 'laws.FnExactPartsOf', WHERE WHAT IT READS IS OF BULK AT MOST 1048576: true; the input reads as it did. -/
def fnExactPartsOfUptoRow : OpenClaim := { program := "ytkipfjdlmomkfaa", sum := "1f39d1d9c14fcaa7a309de6c41edfaea791badfb3606aa7a6dbf278782bbdd12", func := "loop.example/g01298/laws.FnExactPartsOf", spec := "fnExactPartsOf", plainKeys := false, apart := false, narrowed := true }
def FnExactPartsOfUptoSaid : Prop := fnExactPartsOfUptoRow.holds Try.pinned (OpenSpec.upto fnExactPartsOfSpec)

end Rows
end Go.Proofs.Ytkipfjdlmomkfaa
