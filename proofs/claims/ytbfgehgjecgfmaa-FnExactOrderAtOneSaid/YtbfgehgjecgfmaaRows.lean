/-
  No cell of these rows narrows 'for every input' (looked for: loops, veiled, ifaces, maps, wideKeys, modest, calm, conditions, laid).
  DERIVED. THE GIVEN ROWS OF THIS SEAT. 12 by the template 'for every input the law returns true; each argument reads behind the call as it read before'; 0 by the template 'total and deterministic' (their statements: YtbfgehgjecgfmaaTotals.lean).
  GIVEN WITH THE SEED: the statements are not yours to turn. If you find one false, say at which input.
  Laid BY PROGRAM, IN A SANDBOX (cutbox-rows.mjs): the forced cells as the released guide's own fill.sh prints them over the translation c3350802f96d2db5… (all of the seat's roots in one cut). By AI agents, Wed Nov 11 2026. No macro, syntax, notation, axiom, sorry.
-/
import Derived.Test.YtbfgehgjecgfmaaChecked
import GoSem.Claim
import GoSem.ClaimJoined
import GoSem.ClaimMapViews
import Derived.JoinedTies
import Derived.KernelRfl
namespace Go.Proofs.Ytbfgehgjecgfmaa
/- THE CELL 'sum', in the pinned program and in every row, IS THE sha256 OF THE DUMP (.gsa) THAT YtbfgehgjecgfmaaProg.lean LOADS. Nothing in Lean hashes anything: it is a label: what it is worth is what the hold of that sum in a sandbox is worth. -/
noncomputable def Try.pinned : Pinned := { name := "ytbfgehgjecgfmaa", sum := "c3350802f96d2db531acf27ed22432c847f1833efe4ed2c16ce9dbce08146b09", checked := Try.checked }
namespace Rows
def none {H : Type} : Left H := { results := [], args := [] }

/-- 'laws.FnExactReciprocalOf': WHATEVER THE INPUT: true; the input reads as it did. -/
def fnExactReciprocalOfSpec : ChangeSpec := { name := "fnExactReciprocalOf", fn := fun _ => fun
  | [d] => { results := [.lit (.bool true)], args := [d] }
  | _ => none }
def fnExactReciprocalOfRow : OpenClaim := { program := "ytbfgehgjecgfmaa", sum := "c3350802f96d2db531acf27ed22432c847f1833efe4ed2c16ce9dbce08146b09", func := "loop.example/g01298/laws.FnExactReciprocalOf", spec := "fnExactReciprocalOf", plainKeys := false, apart := false }
def FnExactReciprocalOfSaid : Prop := fnExactReciprocalOfRow.holds Try.pinned (OpenSpec.ofChange fnExactReciprocalOfSpec)

/-- ITS FALSE NEIGHBOUR: 'it returns false'. Refute it at one input. -/
def fnExactReciprocalOfWrong : ChangeSpec := { name := "fnExactReciprocalOf", fn := fun _ => fun
  | [d] => { results := [.lit (.bool false)], args := [d] }
  | _ => none }
def FnExactReciprocalOfWrongFalsely : Prop := fnExactReciprocalOfRow.holds Try.pinned (OpenSpec.ofChange fnExactReciprocalOfWrong)

/-- 'laws.FnExactOrderAtOne': WHATEVER THE INPUT: true; the input reads as it did. -/
def fnExactOrderAtOneSpec : ChangeSpec := { name := "fnExactOrderAtOne", fn := fun _ => fun
  | [d] => { results := [.lit (.bool true)], args := [d] }
  | _ => none }
def fnExactOrderAtOneRow : OpenClaim := { program := "ytbfgehgjecgfmaa", sum := "c3350802f96d2db531acf27ed22432c847f1833efe4ed2c16ce9dbce08146b09", func := "loop.example/g01298/laws.FnExactOrderAtOne", spec := "fnExactOrderAtOne", plainKeys := false, apart := false }
def FnExactOrderAtOneSaid : Prop := fnExactOrderAtOneRow.holds Try.pinned (OpenSpec.ofChange fnExactOrderAtOneSpec)

/-- ITS FALSE NEIGHBOUR: 'it returns false'. Refute it at one input. -/
def fnExactOrderAtOneWrong : ChangeSpec := { name := "fnExactOrderAtOne", fn := fun _ => fun
  | [d] => { results := [.lit (.bool false)], args := [d] }
  | _ => none }
def FnExactOrderAtOneWrongFalsely : Prop := fnExactOrderAtOneRow.holds Try.pinned (OpenSpec.ofChange fnExactOrderAtOneWrong)

/-- 'laws.FnExactAreEqualZetas': WHATEVER THE INPUT: true; the input reads as it did. -/
def fnExactAreEqualZetasSpec : ChangeSpec := { name := "fnExactAreEqualZetas", fn := fun _ => fun
  | [d1, d2] => { results := [.lit (.bool true)], args := [d1, d2] }
  | _ => none }
def fnExactAreEqualZetasRow : OpenClaim := { program := "ytbfgehgjecgfmaa", sum := "c3350802f96d2db531acf27ed22432c847f1833efe4ed2c16ce9dbce08146b09", func := "loop.example/g01298/laws.FnExactAreEqualZetas", spec := "fnExactAreEqualZetas", plainKeys := false, apart := false }
def FnExactAreEqualZetasSaid : Prop := fnExactAreEqualZetasRow.holds Try.pinned (OpenSpec.ofChange fnExactAreEqualZetasSpec)

/-- ITS FALSE NEIGHBOUR: 'it returns false'. Refute it at one input. -/
def fnExactAreEqualZetasWrong : ChangeSpec := { name := "fnExactAreEqualZetas", fn := fun _ => fun
  | [d1, d2] => { results := [.lit (.bool false)], args := [d1, d2] }
  | _ => none }
def FnExactAreEqualZetasWrongFalsely : Prop := fnExactAreEqualZetasRow.holds Try.pinned (OpenSpec.ofChange fnExactAreEqualZetasWrong)

/-- 'laws.FnExactZetaSeries': WHATEVER THE INPUT: true; the input reads as it did. -/
def fnExactZetaSeriesSpec : ChangeSpec := { name := "fnExactZetaSeries", fn := fun _ => fun
  | [d1, d2] => { results := [.lit (.bool true)], args := [d1, d2] }
  | _ => none }
def fnExactZetaSeriesRow : OpenClaim := { program := "ytbfgehgjecgfmaa", sum := "c3350802f96d2db531acf27ed22432c847f1833efe4ed2c16ce9dbce08146b09", func := "loop.example/g01298/laws.FnExactZetaSeries", spec := "fnExactZetaSeries", plainKeys := false, apart := false }
def FnExactZetaSeriesSaid : Prop := fnExactZetaSeriesRow.holds Try.pinned (OpenSpec.ofChange fnExactZetaSeriesSpec)

/-- ITS FALSE NEIGHBOUR: 'it returns false'. Refute it at one input. -/
def fnExactZetaSeriesWrong : ChangeSpec := { name := "fnExactZetaSeries", fn := fun _ => fun
  | [d1, d2] => { results := [.lit (.bool false)], args := [d1, d2] }
  | _ => none }
def FnExactZetaSeriesWrongFalsely : Prop := fnExactZetaSeriesRow.holds Try.pinned (OpenSpec.ofChange fnExactZetaSeriesWrong)

/-- 'laws.FnExactSignedReciprocal': WHATEVER THE INPUT: true; the input reads as it did. -/
def fnExactSignedReciprocalSpec : ChangeSpec := { name := "fnExactSignedReciprocal", fn := fun _ => fun
  | [d1, d2] => { results := [.lit (.bool true)], args := [d1, d2] }
  | _ => none }
def fnExactSignedReciprocalRow : OpenClaim := { program := "ytbfgehgjecgfmaa", sum := "c3350802f96d2db531acf27ed22432c847f1833efe4ed2c16ce9dbce08146b09", func := "loop.example/g01298/laws.FnExactSignedReciprocal", spec := "fnExactSignedReciprocal", plainKeys := false, apart := false }
def FnExactSignedReciprocalSaid : Prop := fnExactSignedReciprocalRow.holds Try.pinned (OpenSpec.ofChange fnExactSignedReciprocalSpec)

/-- ITS FALSE NEIGHBOUR: 'it returns false'. Refute it at one input. -/
def fnExactSignedReciprocalWrong : ChangeSpec := { name := "fnExactSignedReciprocal", fn := fun _ => fun
  | [d1, d2] => { results := [.lit (.bool false)], args := [d1, d2] }
  | _ => none }
def FnExactSignedReciprocalWrongFalsely : Prop := fnExactSignedReciprocalRow.holds Try.pinned (OpenSpec.ofChange fnExactSignedReciprocalWrong)

/-- 'laws.FnExactQuotientOfCover': WHATEVER THE INPUT: true; the input reads as it did. -/
def fnExactQuotientOfCoverSpec : ChangeSpec := { name := "fnExactQuotientOfCover", fn := fun _ => fun
  | [d] => { results := [.lit (.bool true)], args := [d] }
  | _ => none }
def fnExactQuotientOfCoverRow : OpenClaim := { program := "ytbfgehgjecgfmaa", sum := "c3350802f96d2db531acf27ed22432c847f1833efe4ed2c16ce9dbce08146b09", func := "loop.example/g01298/laws.FnExactQuotientOfCover", spec := "fnExactQuotientOfCover", unfollowed := true, recurses := true, plainKeys := false, apart := false }
def FnExactQuotientOfCoverSaid : Prop := fnExactQuotientOfCoverRow.holds Try.pinned (OpenSpec.ofChange fnExactQuotientOfCoverSpec)

/-- ITS FALSE NEIGHBOUR: 'it returns false'. Refute it at one input. -/
def fnExactQuotientOfCoverWrong : ChangeSpec := { name := "fnExactQuotientOfCover", fn := fun _ => fun
  | [d] => { results := [.lit (.bool false)], args := [d] }
  | _ => none }
def FnExactQuotientOfCoverWrongFalsely : Prop := fnExactQuotientOfCoverRow.holds Try.pinned (OpenSpec.ofChange fnExactQuotientOfCoverWrong)

/-- 'laws.FnExactSpectralSum': WHATEVER THE INPUT: true; the input reads as it did. -/
def fnExactSpectralSumSpec : ChangeSpec := { name := "fnExactSpectralSum", fn := fun _ => fun
  | [d1, d2] => { results := [.lit (.bool true)], args := [d1, d2] }
  | _ => none }
def fnExactSpectralSumRow : OpenClaim := { program := "ytbfgehgjecgfmaa", sum := "c3350802f96d2db531acf27ed22432c847f1833efe4ed2c16ce9dbce08146b09", func := "loop.example/g01298/laws.FnExactSpectralSum", spec := "fnExactSpectralSum", unfollowed := true, recurses := true, plainKeys := false, apart := false }
def FnExactSpectralSumSaid : Prop := fnExactSpectralSumRow.holds Try.pinned (OpenSpec.ofChange fnExactSpectralSumSpec)

/-- ITS FALSE NEIGHBOUR: 'it returns false'. Refute it at one input. -/
def fnExactSpectralSumWrong : ChangeSpec := { name := "fnExactSpectralSum", fn := fun _ => fun
  | [d1, d2] => { results := [.lit (.bool false)], args := [d1, d2] }
  | _ => none }
def FnExactSpectralSumWrongFalsely : Prop := fnExactSpectralSumRow.holds Try.pinned (OpenSpec.ofChange fnExactSpectralSumWrong)

/-- 'laws.FnExactLineGraph': WHATEVER THE INPUT: true; the input reads as it did. -/
def fnExactLineGraphSpec : ChangeSpec := { name := "fnExactLineGraph", fn := fun _ => fun
  | [d] => { results := [.lit (.bool true)], args := [d] }
  | _ => none }
def fnExactLineGraphRow : OpenClaim := { program := "ytbfgehgjecgfmaa", sum := "c3350802f96d2db531acf27ed22432c847f1833efe4ed2c16ce9dbce08146b09", func := "loop.example/g01298/laws.FnExactLineGraph", spec := "fnExactLineGraph", unfollowed := true, recurses := true, plainKeys := false, apart := false }
def FnExactLineGraphSaid : Prop := fnExactLineGraphRow.holds Try.pinned (OpenSpec.ofChange fnExactLineGraphSpec)

/-- ITS FALSE NEIGHBOUR: 'it returns false'. Refute it at one input. -/
def fnExactLineGraphWrong : ChangeSpec := { name := "fnExactLineGraph", fn := fun _ => fun
  | [d] => { results := [.lit (.bool false)], args := [d] }
  | _ => none }
def FnExactLineGraphWrongFalsely : Prop := fnExactLineGraphRow.holds Try.pinned (OpenSpec.ofChange fnExactLineGraphWrong)

/-- 'laws.FnExactAllWalks': WHATEVER THE INPUT: true; the input reads as it did. -/
def fnExactAllWalksSpec : ChangeSpec := { name := "fnExactAllWalks", fn := fun _ => fun
  | [d1, d2] => { results := [.lit (.bool true)], args := [d1, d2] }
  | _ => none }
def fnExactAllWalksRow : OpenClaim := { program := "ytbfgehgjecgfmaa", sum := "c3350802f96d2db531acf27ed22432c847f1833efe4ed2c16ce9dbce08146b09", func := "loop.example/g01298/laws.FnExactAllWalks", spec := "fnExactAllWalks", unfollowed := true, recurses := true, plainKeys := false, apart := false }
def FnExactAllWalksSaid : Prop := fnExactAllWalksRow.holds Try.pinned (OpenSpec.ofChange fnExactAllWalksSpec)

/-- ITS FALSE NEIGHBOUR: 'it returns false'. Refute it at one input. -/
def fnExactAllWalksWrong : ChangeSpec := { name := "fnExactAllWalks", fn := fun _ => fun
  | [d1, d2] => { results := [.lit (.bool false)], args := [d1, d2] }
  | _ => none }
def FnExactAllWalksWrongFalsely : Prop := fnExactAllWalksRow.holds Try.pinned (OpenSpec.ofChange fnExactAllWalksWrong)

/-- 'laws.FnExactWeightedCounts': WHATEVER THE INPUT: true; the input reads as it did. -/
def fnExactWeightedCountsSpec : ChangeSpec := { name := "fnExactWeightedCounts", fn := fun _ => fun
  | [d1, d2, d3, d4] => { results := [.lit (.bool true)], args := [d1, d2, d3, d4] }
  | _ => none }
def fnExactWeightedCountsRow : OpenClaim := { program := "ytbfgehgjecgfmaa", sum := "c3350802f96d2db531acf27ed22432c847f1833efe4ed2c16ce9dbce08146b09", func := "loop.example/g01298/laws.FnExactWeightedCounts", spec := "fnExactWeightedCounts", unfollowed := true, recurses := true, plainKeys := false, apart := false }
def FnExactWeightedCountsSaid : Prop := fnExactWeightedCountsRow.holds Try.pinned (OpenSpec.ofChange fnExactWeightedCountsSpec)

/-- ITS FALSE NEIGHBOUR: 'it returns false'. Refute it at one input. -/
def fnExactWeightedCountsWrong : ChangeSpec := { name := "fnExactWeightedCounts", fn := fun _ => fun
  | [d1, d2, d3, d4] => { results := [.lit (.bool false)], args := [d1, d2, d3, d4] }
  | _ => none }
def FnExactWeightedCountsWrongFalsely : Prop := fnExactWeightedCountsRow.holds Try.pinned (OpenSpec.ofChange fnExactWeightedCountsWrong)

/-- 'laws.FnExactTurnTable': WHATEVER THE INPUT: true; the input reads as it did. -/
def fnExactTurnTableSpec : ChangeSpec := { name := "fnExactTurnTable", fn := fun _ => fun
  | [d1, d2] => { results := [.lit (.bool true)], args := [d1, d2] }
  | _ => none }
def fnExactTurnTableRow : OpenClaim := { program := "ytbfgehgjecgfmaa", sum := "c3350802f96d2db531acf27ed22432c847f1833efe4ed2c16ce9dbce08146b09", func := "loop.example/g01298/laws.FnExactTurnTable", spec := "fnExactTurnTable", unfollowed := true, recurses := true, plainKeys := false, apart := false }
def FnExactTurnTableSaid : Prop := fnExactTurnTableRow.holds Try.pinned (OpenSpec.ofChange fnExactTurnTableSpec)

/-- ITS FALSE NEIGHBOUR: 'it returns false'. Refute it at one input. -/
def fnExactTurnTableWrong : ChangeSpec := { name := "fnExactTurnTable", fn := fun _ => fun
  | [d1, d2] => { results := [.lit (.bool false)], args := [d1, d2] }
  | _ => none }
def FnExactTurnTableWrongFalsely : Prop := fnExactTurnTableRow.holds Try.pinned (OpenSpec.ofChange fnExactTurnTableWrong)

/-- 'laws.FnExactEdgeMatrix': WHATEVER THE INPUT: true; the input reads as it did. -/
def fnExactEdgeMatrixSpec : ChangeSpec := { name := "fnExactEdgeMatrix", fn := fun _ => fun
  | [d] => { results := [.lit (.bool true)], args := [d] }
  | _ => none }
def fnExactEdgeMatrixRow : OpenClaim := { program := "ytbfgehgjecgfmaa", sum := "c3350802f96d2db531acf27ed22432c847f1833efe4ed2c16ce9dbce08146b09", func := "loop.example/g01298/laws.FnExactEdgeMatrix", spec := "fnExactEdgeMatrix", plainKeys := false, apart := false }
def FnExactEdgeMatrixSaid : Prop := fnExactEdgeMatrixRow.holds Try.pinned (OpenSpec.ofChange fnExactEdgeMatrixSpec)

/-- ITS FALSE NEIGHBOUR: 'it returns false'. Refute it at one input. -/
def fnExactEdgeMatrixWrong : ChangeSpec := { name := "fnExactEdgeMatrix", fn := fun _ => fun
  | [d] => { results := [.lit (.bool false)], args := [d] }
  | _ => none }
def FnExactEdgeMatrixWrongFalsely : Prop := fnExactEdgeMatrixRow.holds Try.pinned (OpenSpec.ofChange fnExactEdgeMatrixWrong)

/- THE SECOND FORM. 'bulk': how many values and letters a reading holds, each counted each time it is reached (what is shared counts as often as it is met; a slice's spare places count too). A statement '..UptoSaid' is the law's where the arguments, and the package variables that the reading takes, are together of bulk at most 1048576: NARROWER than '..Said'. Prove '..Said' where nothing that the law and all that it calls make is longer than what came in: it says more and counts as full. Else prove '..UptoSaid'. A law counts once. -/
mutual
def uptoBulk {H : Type} : DataW H → Nat
  | .lit (.string bytes) => bytes.length + 1
  | .lit _ => 1
  | .nil => 1
  | .ptr d => uptoBulk d + 1
  | .slice elems spare => uptoBulkAll elems + uptoBulkAll spare + 1
  | .agg parts => uptoBulkAll parts + 1
  | .iface _ d => uptoBulk d + 1
  | .map entries => uptoBulkEntries entries + 1
  | .held _ => 1
def uptoBulkAll {H : Type} : List (DataW H) → Nat
  | [] => 0
  | d :: r => uptoBulk d + uptoBulkAll r
def uptoBulkEntries {H : Type} : List (Lit × DataW H) → Nat
  | [] => 0
  | x :: r => uptoBulkEntry x + uptoBulkEntries r
def uptoBulkEntry {H : Type} : Lit × DataW H → Nat
  | (.string bytes, d) => bytes.length + uptoBulk d + 1
  | (_, d) => uptoBulk d + 1
 end
def uptoSmall : (H : Type) → List (DataW H) → Bool := fun _ ds => decide (uptoBulkAll ds ≤ 1048576)
def OpenSpec.upto (s : _root_.Go.ChangeSpec) : _root_.Go.OpenSpec := { _root_.Go.OpenSpec.ofChange s with cond := some uptoSmall }

/-- 'laws.FnExactReciprocalOf', WHERE WHAT IT READS IS OF BULK AT MOST 1048576: true; the input reads as it did. -/
def fnExactReciprocalOfUptoRow : OpenClaim := { program := "ytbfgehgjecgfmaa", sum := "c3350802f96d2db531acf27ed22432c847f1833efe4ed2c16ce9dbce08146b09", func := "loop.example/g01298/laws.FnExactReciprocalOf", spec := "fnExactReciprocalOf", plainKeys := false, apart := false, narrowed := true }
def FnExactReciprocalOfUptoSaid : Prop := fnExactReciprocalOfUptoRow.holds Try.pinned (OpenSpec.upto fnExactReciprocalOfSpec)

/-- 'laws.FnExactOrderAtOne', WHERE WHAT IT READS IS OF BULK AT MOST 1048576: true; the input reads as it did. -/
def fnExactOrderAtOneUptoRow : OpenClaim := { program := "ytbfgehgjecgfmaa", sum := "c3350802f96d2db531acf27ed22432c847f1833efe4ed2c16ce9dbce08146b09", func := "loop.example/g01298/laws.FnExactOrderAtOne", spec := "fnExactOrderAtOne", plainKeys := false, apart := false, narrowed := true }
def FnExactOrderAtOneUptoSaid : Prop := fnExactOrderAtOneUptoRow.holds Try.pinned (OpenSpec.upto fnExactOrderAtOneSpec)

/-- 'laws.FnExactAreEqualZetas', WHERE WHAT IT READS IS OF BULK AT MOST 1048576: true; the input reads as it did. -/
def fnExactAreEqualZetasUptoRow : OpenClaim := { program := "ytbfgehgjecgfmaa", sum := "c3350802f96d2db531acf27ed22432c847f1833efe4ed2c16ce9dbce08146b09", func := "loop.example/g01298/laws.FnExactAreEqualZetas", spec := "fnExactAreEqualZetas", plainKeys := false, apart := false, narrowed := true }
def FnExactAreEqualZetasUptoSaid : Prop := fnExactAreEqualZetasUptoRow.holds Try.pinned (OpenSpec.upto fnExactAreEqualZetasSpec)

/-- 'laws.FnExactZetaSeries', WHERE WHAT IT READS IS OF BULK AT MOST 1048576: true; the input reads as it did. -/
def fnExactZetaSeriesUptoRow : OpenClaim := { program := "ytbfgehgjecgfmaa", sum := "c3350802f96d2db531acf27ed22432c847f1833efe4ed2c16ce9dbce08146b09", func := "loop.example/g01298/laws.FnExactZetaSeries", spec := "fnExactZetaSeries", plainKeys := false, apart := false, narrowed := true }
def FnExactZetaSeriesUptoSaid : Prop := fnExactZetaSeriesUptoRow.holds Try.pinned (OpenSpec.upto fnExactZetaSeriesSpec)

/-- 'laws.FnExactSignedReciprocal', WHERE WHAT IT READS IS OF BULK AT MOST 1048576: true; the input reads as it did. -/
def fnExactSignedReciprocalUptoRow : OpenClaim := { program := "ytbfgehgjecgfmaa", sum := "c3350802f96d2db531acf27ed22432c847f1833efe4ed2c16ce9dbce08146b09", func := "loop.example/g01298/laws.FnExactSignedReciprocal", spec := "fnExactSignedReciprocal", plainKeys := false, apart := false, narrowed := true }
def FnExactSignedReciprocalUptoSaid : Prop := fnExactSignedReciprocalUptoRow.holds Try.pinned (OpenSpec.upto fnExactSignedReciprocalSpec)

/-- 'laws.FnExactQuotientOfCover', WHERE WHAT IT READS IS OF BULK AT MOST 1048576: true; the input reads as it did. -/
def fnExactQuotientOfCoverUptoRow : OpenClaim := { program := "ytbfgehgjecgfmaa", sum := "c3350802f96d2db531acf27ed22432c847f1833efe4ed2c16ce9dbce08146b09", func := "loop.example/g01298/laws.FnExactQuotientOfCover", spec := "fnExactQuotientOfCover", unfollowed := true, recurses := true, plainKeys := false, apart := false, narrowed := true }
def FnExactQuotientOfCoverUptoSaid : Prop := fnExactQuotientOfCoverUptoRow.holds Try.pinned (OpenSpec.upto fnExactQuotientOfCoverSpec)

/-- 'laws.FnExactSpectralSum', WHERE WHAT IT READS IS OF BULK AT MOST 1048576: true; the input reads as it did. -/
def fnExactSpectralSumUptoRow : OpenClaim := { program := "ytbfgehgjecgfmaa", sum := "c3350802f96d2db531acf27ed22432c847f1833efe4ed2c16ce9dbce08146b09", func := "loop.example/g01298/laws.FnExactSpectralSum", spec := "fnExactSpectralSum", unfollowed := true, recurses := true, plainKeys := false, apart := false, narrowed := true }
def FnExactSpectralSumUptoSaid : Prop := fnExactSpectralSumUptoRow.holds Try.pinned (OpenSpec.upto fnExactSpectralSumSpec)

/-- 'laws.FnExactLineGraph', WHERE WHAT IT READS IS OF BULK AT MOST 1048576: true; the input reads as it did. -/
def fnExactLineGraphUptoRow : OpenClaim := { program := "ytbfgehgjecgfmaa", sum := "c3350802f96d2db531acf27ed22432c847f1833efe4ed2c16ce9dbce08146b09", func := "loop.example/g01298/laws.FnExactLineGraph", spec := "fnExactLineGraph", unfollowed := true, recurses := true, plainKeys := false, apart := false, narrowed := true }
def FnExactLineGraphUptoSaid : Prop := fnExactLineGraphUptoRow.holds Try.pinned (OpenSpec.upto fnExactLineGraphSpec)

/-- 'laws.FnExactAllWalks', WHERE WHAT IT READS IS OF BULK AT MOST 1048576: true; the input reads as it did. -/
def fnExactAllWalksUptoRow : OpenClaim := { program := "ytbfgehgjecgfmaa", sum := "c3350802f96d2db531acf27ed22432c847f1833efe4ed2c16ce9dbce08146b09", func := "loop.example/g01298/laws.FnExactAllWalks", spec := "fnExactAllWalks", unfollowed := true, recurses := true, plainKeys := false, apart := false, narrowed := true }
def FnExactAllWalksUptoSaid : Prop := fnExactAllWalksUptoRow.holds Try.pinned (OpenSpec.upto fnExactAllWalksSpec)

/-- 'laws.FnExactWeightedCounts', WHERE WHAT IT READS IS OF BULK AT MOST 1048576: true; the input reads as it did. -/
def fnExactWeightedCountsUptoRow : OpenClaim := { program := "ytbfgehgjecgfmaa", sum := "c3350802f96d2db531acf27ed22432c847f1833efe4ed2c16ce9dbce08146b09", func := "loop.example/g01298/laws.FnExactWeightedCounts", spec := "fnExactWeightedCounts", unfollowed := true, recurses := true, plainKeys := false, apart := false, narrowed := true }
def FnExactWeightedCountsUptoSaid : Prop := fnExactWeightedCountsUptoRow.holds Try.pinned (OpenSpec.upto fnExactWeightedCountsSpec)

/-- 'laws.FnExactTurnTable', WHERE WHAT IT READS IS OF BULK AT MOST 1048576: true; the input reads as it did. -/
def fnExactTurnTableUptoRow : OpenClaim := { program := "ytbfgehgjecgfmaa", sum := "c3350802f96d2db531acf27ed22432c847f1833efe4ed2c16ce9dbce08146b09", func := "loop.example/g01298/laws.FnExactTurnTable", spec := "fnExactTurnTable", unfollowed := true, recurses := true, plainKeys := false, apart := false, narrowed := true }
def FnExactTurnTableUptoSaid : Prop := fnExactTurnTableUptoRow.holds Try.pinned (OpenSpec.upto fnExactTurnTableSpec)

/-- 'laws.FnExactEdgeMatrix', WHERE WHAT IT READS IS OF BULK AT MOST 1048576: true; the input reads as it did. -/
def fnExactEdgeMatrixUptoRow : OpenClaim := { program := "ytbfgehgjecgfmaa", sum := "c3350802f96d2db531acf27ed22432c847f1833efe4ed2c16ce9dbce08146b09", func := "loop.example/g01298/laws.FnExactEdgeMatrix", spec := "fnExactEdgeMatrix", plainKeys := false, apart := false, narrowed := true }
def FnExactEdgeMatrixUptoSaid : Prop := fnExactEdgeMatrixUptoRow.holds Try.pinned (OpenSpec.upto fnExactEdgeMatrixSpec)

end Rows
end Go.Proofs.Ytbfgehgjecgfmaa
