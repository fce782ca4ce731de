/-
  No cell of these rows narrows 'for every input' (looked for: loops, veiled, ifaces, maps, wideKeys, modest, calm, conditions, laid).
  DERIVED. THE GIVEN ROWS OF THIS SEAT. 11 by the template 'for every input the law returns true; each argument reads behind the call as it read before'; 0 by the template 'total and deterministic' (their statements: YtmhnckjcpdnabaaTotals.lean).
  GIVEN WITH THE SEED: the statements are not yours to turn. If you find one false, say at which input.
  Laid BY PROGRAM, IN A SANDBOX (cutbox-rows.mjs): the forced cells as the released guide's own fill.sh prints them over the translation bc236b8171b252d1… (all of the seat's roots in one cut). By AI agents, Wed Nov 11 2026. No macro, syntax, notation, axiom, sorry.
-/
import Derived.Test.YtmhnckjcpdnabaaChecked
import GoSem.Claim
import GoSem.ClaimJoined
import GoSem.ClaimMapViews
import Derived.JoinedTies
import Derived.KernelRfl
namespace Go.Proofs.Ytmhnckjcpdnabaa
/- THE CELL 'sum', in the pinned program and in every row, IS THE sha256 OF THE DUMP (.gsa) THAT YtmhnckjcpdnabaaProg.lean LOADS. Nothing in Lean hashes anything: it is a label: what it is worth is what the hold of that sum in a sandbox is worth. -/
noncomputable def Try.pinned : Pinned := { name := "ytmhnckjcpdnabaa", sum := "bc236b8171b252d13f8a208c1da7846cc5a4de5d3468466ee9a52831461eac32", checked := Try.checked }
namespace Rows
def none {H : Type} : Left H := { results := [], args := [] }

/-- 'laws.FnExactDegreeOfChips': WHATEVER THE INPUT: true; the input reads as it did. -/
def fnExactDegreeOfChipsSpec : ChangeSpec := { name := "fnExactDegreeOfChips", fn := fun _ => fun
  | [d1, d2] => { results := [.lit (.bool true)], args := [d1, d2] }
  | _ => none }
def fnExactDegreeOfChipsRow : OpenClaim := { program := "ytmhnckjcpdnabaa", sum := "bc236b8171b252d13f8a208c1da7846cc5a4de5d3468466ee9a52831461eac32", func := "loop.example/g01298/laws.FnExactDegreeOfChips", spec := "fnExactDegreeOfChips", unfollowed := true, recurses := true, plainKeys := false, apart := false }
def FnExactDegreeOfChipsSaid : Prop := fnExactDegreeOfChipsRow.holds Try.pinned (OpenSpec.ofChange fnExactDegreeOfChipsSpec)

/-- ITS FALSE NEIGHBOUR: 'it returns false'. Refute it at one input. -/
def fnExactDegreeOfChipsWrong : ChangeSpec := { name := "fnExactDegreeOfChips", fn := fun _ => fun
  | [d1, d2] => { results := [.lit (.bool false)], args := [d1, d2] }
  | _ => none }
def FnExactDegreeOfChipsWrongFalsely : Prop := fnExactDegreeOfChipsRow.holds Try.pinned (OpenSpec.ofChange fnExactDegreeOfChipsWrong)

/-- 'laws.FnExactSignedLaplacian': WHATEVER THE INPUT: true; the input reads as it did. -/
def fnExactSignedLaplacianSpec : ChangeSpec := { name := "fnExactSignedLaplacian", fn := fun _ => fun
  | [d1, d2] => { results := [.lit (.bool true)], args := [d1, d2] }
  | _ => none }
def fnExactSignedLaplacianRow : OpenClaim := { program := "ytmhnckjcpdnabaa", sum := "bc236b8171b252d13f8a208c1da7846cc5a4de5d3468466ee9a52831461eac32", func := "loop.example/g01298/laws.FnExactSignedLaplacian", spec := "fnExactSignedLaplacian", plainKeys := false, apart := false }
def FnExactSignedLaplacianSaid : Prop := fnExactSignedLaplacianRow.holds Try.pinned (OpenSpec.ofChange fnExactSignedLaplacianSpec)

/-- ITS FALSE NEIGHBOUR: 'it returns false'. Refute it at one input. -/
def fnExactSignedLaplacianWrong : ChangeSpec := { name := "fnExactSignedLaplacian", fn := fun _ => fun
  | [d1, d2] => { results := [.lit (.bool false)], args := [d1, d2] }
  | _ => none }
def FnExactSignedLaplacianWrongFalsely : Prop := fnExactSignedLaplacianRow.holds Try.pinned (OpenSpec.ofChange fnExactSignedLaplacianWrong)

/-- 'laws.FnExactFireVertex': WHATEVER THE INPUT: true; the input reads as it did. -/
def fnExactFireVertexSpec : ChangeSpec := { name := "fnExactFireVertex", fn := fun _ => fun
  | [d1, d2, d3] => { results := [.lit (.bool true)], args := [d1, d2, d3] }
  | _ => none }
def fnExactFireVertexRow : OpenClaim := { program := "ytmhnckjcpdnabaa", sum := "bc236b8171b252d13f8a208c1da7846cc5a4de5d3468466ee9a52831461eac32", func := "loop.example/g01298/laws.FnExactFireVertex", spec := "fnExactFireVertex", unfollowed := true, recurses := true, plainKeys := false, apart := false }
def FnExactFireVertexSaid : Prop := fnExactFireVertexRow.holds Try.pinned (OpenSpec.ofChange fnExactFireVertexSpec)

/-- ITS FALSE NEIGHBOUR: 'it returns false'. Refute it at one input. -/
def fnExactFireVertexWrong : ChangeSpec := { name := "fnExactFireVertex", fn := fun _ => fun
  | [d1, d2, d3] => { results := [.lit (.bool false)], args := [d1, d2, d3] }
  | _ => none }
def FnExactFireVertexWrongFalsely : Prop := fnExactFireVertexRow.holds Try.pinned (OpenSpec.ofChange fnExactFireVertexWrong)

/-- 'laws.FnExactSignedNumber': WHATEVER THE INPUT: true; the input reads as it did. -/
def fnExactSignedNumberSpec : ChangeSpec := { name := "fnExactSignedNumber", fn := fun _ => fun
  | [d1, d2] => { results := [.lit (.bool true)], args := [d1, d2] }
  | _ => none }
def fnExactSignedNumberRow : OpenClaim := { program := "ytmhnckjcpdnabaa", sum := "bc236b8171b252d13f8a208c1da7846cc5a4de5d3468466ee9a52831461eac32", func := "loop.example/g01298/laws.FnExactSignedNumber", spec := "fnExactSignedNumber", unfollowed := true, recurses := true, plainKeys := false, apart := false }
def FnExactSignedNumberSaid : Prop := fnExactSignedNumberRow.holds Try.pinned (OpenSpec.ofChange fnExactSignedNumberSpec)

/-- ITS FALSE NEIGHBOUR: 'it returns false'. Refute it at one input. -/
def fnExactSignedNumberWrong : ChangeSpec := { name := "fnExactSignedNumber", fn := fun _ => fun
  | [d1, d2] => { results := [.lit (.bool false)], args := [d1, d2] }
  | _ => none }
def FnExactSignedNumberWrongFalsely : Prop := fnExactSignedNumberRow.holds Try.pinned (OpenSpec.ofChange fnExactSignedNumberWrong)

/-- 'laws.FnExactEdgeDeterminant': WHATEVER THE INPUT: true; the input reads as it did. -/
def fnExactEdgeDeterminantSpec : ChangeSpec := { name := "fnExactEdgeDeterminant", fn := fun _ => fun
  | [d] => { results := [.lit (.bool true)], args := [d] }
  | _ => none }
def fnExactEdgeDeterminantRow : OpenClaim := { program := "ytmhnckjcpdnabaa", sum := "bc236b8171b252d13f8a208c1da7846cc5a4de5d3468466ee9a52831461eac32", func := "loop.example/g01298/laws.FnExactEdgeDeterminant", spec := "fnExactEdgeDeterminant", unfollowed := true, recurses := true, plainKeys := false, apart := false }
def FnExactEdgeDeterminantSaid : Prop := fnExactEdgeDeterminantRow.holds Try.pinned (OpenSpec.ofChange fnExactEdgeDeterminantSpec)

/-- ITS FALSE NEIGHBOUR: 'it returns false'. Refute it at one input. -/
def fnExactEdgeDeterminantWrong : ChangeSpec := { name := "fnExactEdgeDeterminant", fn := fun _ => fun
  | [d] => { results := [.lit (.bool false)], args := [d] }
  | _ => none }
def FnExactEdgeDeterminantWrongFalsely : Prop := fnExactEdgeDeterminantRow.holds Try.pinned (OpenSpec.ofChange fnExactEdgeDeterminantWrong)

/-- 'laws.FnExactLeastCode': WHATEVER THE INPUT: true; the input reads as it did. -/
def fnExactLeastCodeSpec : ChangeSpec := { name := "fnExactLeastCode", fn := fun _ => fun
  | [d] => { results := [.lit (.bool true)], args := [d] }
  | _ => none }
def fnExactLeastCodeRow : OpenClaim := { program := "ytmhnckjcpdnabaa", sum := "bc236b8171b252d13f8a208c1da7846cc5a4de5d3468466ee9a52831461eac32", func := "loop.example/g01298/laws.FnExactLeastCode", spec := "fnExactLeastCode", unfollowed := true, recurses := true, plainKeys := false, apart := false }
def FnExactLeastCodeSaid : Prop := fnExactLeastCodeRow.holds Try.pinned (OpenSpec.ofChange fnExactLeastCodeSpec)

/-- ITS FALSE NEIGHBOUR: 'it returns false'. Refute it at one input. -/
def fnExactLeastCodeWrong : ChangeSpec := { name := "fnExactLeastCode", fn := fun _ => fun
  | [d] => { results := [.lit (.bool false)], args := [d] }
  | _ => none }
def FnExactLeastCodeWrongFalsely : Prop := fnExactLeastCodeRow.holds Try.pinned (OpenSpec.ofChange fnExactLeastCodeWrong)

/-- 'laws.FnExactAllWalks': WHATEVER THE INPUT: true; the input reads as it did. -/
def fnExactAllWalksSpec : ChangeSpec := { name := "fnExactAllWalks", fn := fun _ => fun
  | [d1, d2] => { results := [.lit (.bool true)], args := [d1, d2] }
  | _ => none }
def fnExactAllWalksRow : OpenClaim := { program := "ytmhnckjcpdnabaa", sum := "bc236b8171b252d13f8a208c1da7846cc5a4de5d3468466ee9a52831461eac32", func := "loop.example/g01298/laws.FnExactAllWalks", spec := "fnExactAllWalks", unfollowed := true, recurses := true, plainKeys := false, apart := false }
def FnExactAllWalksSaid : Prop := fnExactAllWalksRow.holds Try.pinned (OpenSpec.ofChange fnExactAllWalksSpec)

/-- ITS FALSE NEIGHBOUR: 'it returns false'. Refute it at one input. -/
def fnExactAllWalksWrong : ChangeSpec := { name := "fnExactAllWalks", fn := fun _ => fun
  | [d1, d2] => { results := [.lit (.bool false)], args := [d1, d2] }
  | _ => none }
def FnExactAllWalksWrongFalsely : Prop := fnExactAllWalksRow.holds Try.pinned (OpenSpec.ofChange fnExactAllWalksWrong)

/-- 'laws.FnExactTurnTable': WHATEVER THE INPUT: true; the input reads as it did. -/
def fnExactTurnTableSpec : ChangeSpec := { name := "fnExactTurnTable", fn := fun _ => fun
  | [d1, d2] => { results := [.lit (.bool true)], args := [d1, d2] }
  | _ => none }
def fnExactTurnTableRow : OpenClaim := { program := "ytmhnckjcpdnabaa", sum := "bc236b8171b252d13f8a208c1da7846cc5a4de5d3468466ee9a52831461eac32", func := "loop.example/g01298/laws.FnExactTurnTable", spec := "fnExactTurnTable", unfollowed := true, recurses := true, plainKeys := false, apart := false }
def FnExactTurnTableSaid : Prop := fnExactTurnTableRow.holds Try.pinned (OpenSpec.ofChange fnExactTurnTableSpec)

/-- ITS FALSE NEIGHBOUR: 'it returns false'. Refute it at one input. -/
def fnExactTurnTableWrong : ChangeSpec := { name := "fnExactTurnTable", fn := fun _ => fun
  | [d1, d2] => { results := [.lit (.bool false)], args := [d1, d2] }
  | _ => none }
def FnExactTurnTableWrongFalsely : Prop := fnExactTurnTableRow.holds Try.pinned (OpenSpec.ofChange fnExactTurnTableWrong)

/-- 'laws.FnExactGraphNames': WHATEVER THE INPUT: true; the input reads as it did. -/
def fnExactGraphNamesSpec : ChangeSpec := { name := "fnExactGraphNames", fn := fun _ => fun
  | [] => { results := [.lit (.bool true)], args := [] }
  | _ => none }
def fnExactGraphNamesRow : OpenClaim := { program := "ytmhnckjcpdnabaa", sum := "bc236b8171b252d13f8a208c1da7846cc5a4de5d3468466ee9a52831461eac32", func := "loop.example/g01298/laws.FnExactGraphNames", spec := "fnExactGraphNames", plainKeys := false, apart := false }
def FnExactGraphNamesSaid : Prop := fnExactGraphNamesRow.holds Try.pinned (OpenSpec.ofChange fnExactGraphNamesSpec)

/-- ITS FALSE NEIGHBOUR: 'it returns false'. Refute it at one input. -/
def fnExactGraphNamesWrong : ChangeSpec := { name := "fnExactGraphNames", fn := fun _ => fun
  | [] => { results := [.lit (.bool false)], args := [] }
  | _ => none }
def FnExactGraphNamesWrongFalsely : Prop := fnExactGraphNamesRow.holds Try.pinned (OpenSpec.ofChange fnExactGraphNamesWrong)

/-- 'laws.FnExactEdgeValue': WHATEVER THE INPUT: true; the input reads as it did. -/
def fnExactEdgeValueSpec : ChangeSpec := { name := "fnExactEdgeValue", fn := fun _ => fun
  | [d1, d2, d3] => { results := [.lit (.bool true)], args := [d1, d2, d3] }
  | _ => none }
def fnExactEdgeValueRow : OpenClaim := { program := "ytmhnckjcpdnabaa", sum := "bc236b8171b252d13f8a208c1da7846cc5a4de5d3468466ee9a52831461eac32", func := "loop.example/g01298/laws.FnExactEdgeValue", spec := "fnExactEdgeValue", unfollowed := true, recurses := true, plainKeys := false, apart := false }
def FnExactEdgeValueSaid : Prop := fnExactEdgeValueRow.holds Try.pinned (OpenSpec.ofChange fnExactEdgeValueSpec)

/-- ITS FALSE NEIGHBOUR: 'it returns false'. Refute it at one input. -/
def fnExactEdgeValueWrong : ChangeSpec := { name := "fnExactEdgeValue", fn := fun _ => fun
  | [d1, d2, d3] => { results := [.lit (.bool false)], args := [d1, d2, d3] }
  | _ => none }
def FnExactEdgeValueWrongFalsely : Prop := fnExactEdgeValueRow.holds Try.pinned (OpenSpec.ofChange fnExactEdgeValueWrong)

/-- 'laws.FnExactRootsModulo': WHATEVER THE INPUT: true; the input reads as it did. -/
def fnExactRootsModuloSpec : ChangeSpec := { name := "fnExactRootsModulo", fn := fun _ => fun
  | [d1, d2] => { results := [.lit (.bool true)], args := [d1, d2] }
  | _ => none }
def fnExactRootsModuloRow : OpenClaim := { program := "ytmhnckjcpdnabaa", sum := "bc236b8171b252d13f8a208c1da7846cc5a4de5d3468466ee9a52831461eac32", func := "loop.example/g01298/laws.FnExactRootsModulo", spec := "fnExactRootsModulo", unfollowed := true, recurses := true, plainKeys := false, apart := false }
def FnExactRootsModuloSaid : Prop := fnExactRootsModuloRow.holds Try.pinned (OpenSpec.ofChange fnExactRootsModuloSpec)

/-- ITS FALSE NEIGHBOUR: 'it returns false'. Refute it at one input. -/
def fnExactRootsModuloWrong : ChangeSpec := { name := "fnExactRootsModulo", fn := fun _ => fun
  | [d1, d2] => { results := [.lit (.bool false)], args := [d1, d2] }
  | _ => none }
def FnExactRootsModuloWrongFalsely : Prop := fnExactRootsModuloRow.holds Try.pinned (OpenSpec.ofChange fnExactRootsModuloWrong)

/- THE SECOND FORM. 'bulk': how many values and letters a reading holds, each counted each time it is reached (what is shared counts as often as it is met; a slice's spare places count too). A statement '..UptoSaid' is the law's where the arguments, and the package variables that the reading takes, are together of bulk at most 1048576: NARROWER than '..Said'. Prove '..Said' where nothing that the law and all that it calls make is longer than what came in: it says more and counts as full. Else prove '..UptoSaid'. A law counts once. -/
mutual
def uptoBulk {H : Type} : DataW H → Nat
  | .lit (.string bytes) => bytes.length + 1
  | .lit _ => 1
  | .nil => 1
  | .ptr d => uptoBulk d + 1
  | .slice elems spare => uptoBulkAll elems + uptoBulkAll spare + 1
  | .agg parts => uptoBulkAll parts + 1
  | .iface _ d => uptoBulk d + 1
  | .map entries => uptoBulkEntries entries + 1
  | .held _ => 1
def uptoBulkAll {H : Type} : List (DataW H) → Nat
  | [] => 0
  | d :: r => uptoBulk d + uptoBulkAll r
def uptoBulkEntries {H : Type} : List (Lit × DataW H) → Nat
  | [] => 0
  | x :: r => uptoBulkEntry x + uptoBulkEntries r
def uptoBulkEntry {H : Type} : Lit × DataW H → Nat
  | (.string bytes, d) => bytes.length + uptoBulk d + 1
  | (_, d) => uptoBulk d + 1
 end
def uptoSmall : (H : Type) → List (DataW H) → Bool := fun _ ds => decide (uptoBulkAll ds ≤ 1048576)
def OpenSpec.upto (s : _root_.Go.ChangeSpec) : _root_.Go.OpenSpec := { _root_.Go.OpenSpec.ofChange s with cond := some uptoSmall }

/-- 'laws.FnExactDegreeOfChips', WHERE WHAT IT READS IS OF BULK AT MOST 1048576: true; the input reads as it did. -/
def fnExactDegreeOfChipsUptoRow : OpenClaim := { program := "ytmhnckjcpdnabaa", sum := "bc236b8171b252d13f8a208c1da7846cc5a4de5d3468466ee9a52831461eac32", func := "loop.example/g01298/laws.FnExactDegreeOfChips", spec := "fnExactDegreeOfChips", unfollowed := true, recurses := true, plainKeys := false, apart := false, narrowed := true }
def FnExactDegreeOfChipsUptoSaid : Prop := fnExactDegreeOfChipsUptoRow.holds Try.pinned (OpenSpec.upto fnExactDegreeOfChipsSpec)

/-- 'laws.FnExactSignedLaplacian', WHERE WHAT IT READS IS OF BULK AT MOST 1048576: true; the input reads as it did. -/
def fnExactSignedLaplacianUptoRow : OpenClaim := { program := "ytmhnckjcpdnabaa", sum := "bc236b8171b252d13f8a208c1da7846cc5a4de5d3468466ee9a52831461eac32", func := "loop.example/g01298/laws.FnExactSignedLaplacian", spec := "fnExactSignedLaplacian", plainKeys := false, apart := false, narrowed := true }
def FnExactSignedLaplacianUptoSaid : Prop := fnExactSignedLaplacianUptoRow.holds Try.pinned (OpenSpec.upto fnExactSignedLaplacianSpec)

/-- 'laws.FnExactFireVertex', WHERE WHAT IT READS IS OF BULK AT MOST 1048576: true; the input reads as it did. -/
def fnExactFireVertexUptoRow : OpenClaim := { program := "ytmhnckjcpdnabaa", sum := "bc236b8171b252d13f8a208c1da7846cc5a4de5d3468466ee9a52831461eac32", func := "loop.example/g01298/laws.FnExactFireVertex", spec := "fnExactFireVertex", unfollowed := true, recurses := true, plainKeys := false, apart := false, narrowed := true }
def FnExactFireVertexUptoSaid : Prop := fnExactFireVertexUptoRow.holds Try.pinned (OpenSpec.upto fnExactFireVertexSpec)

/-- 'laws.FnExactSignedNumber', WHERE WHAT IT READS IS OF BULK AT MOST 1048576: true; the input reads as it did. -/
def fnExactSignedNumberUptoRow : OpenClaim := { program := "ytmhnckjcpdnabaa", sum := "bc236b8171b252d13f8a208c1da7846cc5a4de5d3468466ee9a52831461eac32", func := "loop.example/g01298/laws.FnExactSignedNumber", spec := "fnExactSignedNumber", unfollowed := true, recurses := true, plainKeys := false, apart := false, narrowed := true }
def FnExactSignedNumberUptoSaid : Prop := fnExactSignedNumberUptoRow.holds Try.pinned (OpenSpec.upto fnExactSignedNumberSpec)

/-- 'laws.FnExactEdgeDeterminant', WHERE WHAT IT READS IS OF BULK AT MOST 1048576: true; the input reads as it did. -/
def fnExactEdgeDeterminantUptoRow : OpenClaim := { program := "ytmhnckjcpdnabaa", sum := "bc236b8171b252d13f8a208c1da7846cc5a4de5d3468466ee9a52831461eac32", func := "loop.example/g01298/laws.FnExactEdgeDeterminant", spec := "fnExactEdgeDeterminant", unfollowed := true, recurses := true, plainKeys := false, apart := false, narrowed := true }
def FnExactEdgeDeterminantUptoSaid : Prop := fnExactEdgeDeterminantUptoRow.holds Try.pinned (OpenSpec.upto fnExactEdgeDeterminantSpec)

/-- 'laws.FnExactLeastCode', WHERE WHAT IT READS IS OF BULK AT MOST 1048576: true; the input reads as it did. -/
def fnExactLeastCodeUptoRow : OpenClaim := { program := "ytmhnckjcpdnabaa", sum := "bc236b8171b252d13f8a208c1da7846cc5a4de5d3468466ee9a52831461eac32", func := "loop.example/g01298/laws.FnExactLeastCode", spec := "fnExactLeastCode", unfollowed := true, recurses := true, plainKeys := false, apart := false, narrowed := true }
def FnExactLeastCodeUptoSaid : Prop := fnExactLeastCodeUptoRow.holds Try.pinned (OpenSpec.upto fnExactLeastCodeSpec)

/-- 'laws.FnExactAllWalks', WHERE WHAT IT READS IS OF BULK AT MOST 1048576: true; the input reads as it did. -/
def fnExactAllWalksUptoRow : OpenClaim := { program := "ytmhnckjcpdnabaa", sum := "bc236b8171b252d13f8a208c1da7846cc5a4de5d3468466ee9a52831461eac32", func := "loop.example/g01298/laws.FnExactAllWalks", spec := "fnExactAllWalks", unfollowed := true, recurses := true, plainKeys := false, apart := false, narrowed := true }
def FnExactAllWalksUptoSaid : Prop := fnExactAllWalksUptoRow.holds Try.pinned (OpenSpec.upto fnExactAllWalksSpec)

/-- 'laws.FnExactTurnTable', WHERE WHAT IT READS IS OF BULK AT MOST 1048576: true; the input reads as it did. -/
def fnExactTurnTableUptoRow : OpenClaim := { program := "ytmhnckjcpdnabaa", sum := "bc236b8171b252d13f8a208c1da7846cc5a4de5d3468466ee9a52831461eac32", func := "loop.example/g01298/laws.FnExactTurnTable", spec := "fnExactTurnTable", unfollowed := true, recurses := true, plainKeys := false, apart := false, narrowed := true }
def FnExactTurnTableUptoSaid : Prop := fnExactTurnTableUptoRow.holds Try.pinned (OpenSpec.upto fnExactTurnTableSpec)

/-- 'laws.FnExactGraphNames', WHERE WHAT IT READS IS OF BULK AT MOST 1048576: true; the input reads as it did. -/
def fnExactGraphNamesUptoRow : OpenClaim := { program := "ytmhnckjcpdnabaa", sum := "bc236b8171b252d13f8a208c1da7846cc5a4de5d3468466ee9a52831461eac32", func := "loop.example/g01298/laws.FnExactGraphNames", spec := "fnExactGraphNames", plainKeys := false, apart := false, narrowed := true }
def FnExactGraphNamesUptoSaid : Prop := fnExactGraphNamesUptoRow.holds Try.pinned (OpenSpec.upto fnExactGraphNamesSpec)

/-- 'laws.FnExactEdgeValue', WHERE WHAT IT READS IS OF BULK AT MOST 1048576: true; the input reads as it did. -/
def fnExactEdgeValueUptoRow : OpenClaim := { program := "ytmhnckjcpdnabaa", sum := "bc236b8171b252d13f8a208c1da7846cc5a4de5d3468466ee9a52831461eac32", func := "loop.example/g01298/laws.FnExactEdgeValue", spec := "fnExactEdgeValue", unfollowed := true, recurses := true, plainKeys := false, apart := false, narrowed := true }
def FnExactEdgeValueUptoSaid : Prop := fnExactEdgeValueUptoRow.holds Try.pinned (OpenSpec.upto fnExactEdgeValueSpec)

/-- 'laws.FnExactRootsModulo', WHERE WHAT IT READS IS OF BULK AT MOST 1048576: true; the input reads as it did. -/
def fnExactRootsModuloUptoRow : OpenClaim := { program := "ytmhnckjcpdnabaa", sum := "bc236b8171b252d13f8a208c1da7846cc5a4de5d3468466ee9a52831461eac32", func := "loop.example/g01298/laws.FnExactRootsModulo", spec := "fnExactRootsModulo", unfollowed := true, recurses := true, plainKeys := false, apart := false, narrowed := true }
def FnExactRootsModuloUptoSaid : Prop := fnExactRootsModuloUptoRow.holds Try.pinned (OpenSpec.upto fnExactRootsModuloSpec)

end Rows
end Go.Proofs.Ytmhnckjcpdnabaa
