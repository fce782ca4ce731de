/-
  No cell of these rows narrows 'for every input' (looked for: loops, veiled, ifaces, maps, wideKeys, modest, calm, conditions, laid).
  DERIVED. THE GIVEN ROWS OF THIS SEAT. 10 by the template 'for every input the law returns true; each argument reads behind the call as it read before'; 0 by the template 'total and deterministic' (their statements: YtnblhkhdilkbeaaTotals.lean).
  GIVEN WITH THE SEED: the statements are not yours to turn. If you find one false, say at which input.
  Laid BY PROGRAM, IN A SANDBOX (cutbox-rows.mjs): the forced cells as the released guide's own fill.sh prints them over the translation 5a801f085e0307b3… (all of the seat's roots in one cut). By AI agents, Wed Nov 11 2026. No macro, syntax, notation, axiom, sorry.
-/
import Derived.Test.YtnblhkhdilkbeaaChecked
import GoSem.Claim
import GoSem.ClaimJoined
import GoSem.ClaimMapViews
import Derived.JoinedTies
import Derived.KernelRfl
namespace Go.Proofs.Ytnblhkhdilkbeaa
/- THE CELL 'sum', in the pinned program and in every row, IS THE sha256 OF THE DUMP (.gsa) THAT YtnblhkhdilkbeaaProg.lean LOADS. Nothing in Lean hashes anything: it is a label: what it is worth is what the hold of that sum in a sandbox is worth. -/
noncomputable def Try.pinned : Pinned := { name := "ytnblhkhdilkbeaa", sum := "5a801f085e0307b3cc1fa579025dcadd72c578eaf0cdcc15e7082170db497799", checked := Try.checked }
namespace Rows
def none {H : Type} : Left H := { results := [], args := [] }

/-- 'laws.FnExactIsDesk': WHATEVER THE INPUT: true; the input reads as it did. -/
def fnExactIsDeskSpec : ChangeSpec := { name := "fnExactIsDesk", fn := fun _ => fun
  | [d] => { results := [.lit (.bool true)], args := [d] }
  | _ => none }
def fnExactIsDeskRow : OpenClaim := { program := "ytnblhkhdilkbeaa", sum := "5a801f085e0307b3cc1fa579025dcadd72c578eaf0cdcc15e7082170db497799", func := "loop.example/g01298/laws.FnExactIsDesk", spec := "fnExactIsDesk", unfollowed := true, recurses := true, plainKeys := false, apart := false }
def FnExactIsDeskSaid : Prop := fnExactIsDeskRow.holds Try.pinned (OpenSpec.ofChange fnExactIsDeskSpec)

/-- ITS FALSE NEIGHBOUR: 'it returns false'. Refute it at one input. -/
def fnExactIsDeskWrong : ChangeSpec := { name := "fnExactIsDesk", fn := fun _ => fun
  | [d] => { results := [.lit (.bool false)], args := [d] }
  | _ => none }
def FnExactIsDeskWrongFalsely : Prop := fnExactIsDeskRow.holds Try.pinned (OpenSpec.ofChange fnExactIsDeskWrong)

/-- 'laws.FnExactFireVertex': WHATEVER THE INPUT: true; the input reads as it did. -/
def fnExactFireVertexSpec : ChangeSpec := { name := "fnExactFireVertex", fn := fun _ => fun
  | [d1, d2, d3] => { results := [.lit (.bool true)], args := [d1, d2, d3] }
  | _ => none }
def fnExactFireVertexRow : OpenClaim := { program := "ytnblhkhdilkbeaa", sum := "5a801f085e0307b3cc1fa579025dcadd72c578eaf0cdcc15e7082170db497799", func := "loop.example/g01298/laws.FnExactFireVertex", spec := "fnExactFireVertex", unfollowed := true, recurses := true, plainKeys := false, apart := false }
def FnExactFireVertexSaid : Prop := fnExactFireVertexRow.holds Try.pinned (OpenSpec.ofChange fnExactFireVertexSpec)

/-- ITS FALSE NEIGHBOUR: 'it returns false'. Refute it at one input. -/
def fnExactFireVertexWrong : ChangeSpec := { name := "fnExactFireVertex", fn := fun _ => fun
  | [d1, d2, d3] => { results := [.lit (.bool false)], args := [d1, d2, d3] }
  | _ => none }
def FnExactFireVertexWrongFalsely : Prop := fnExactFireVertexRow.holds Try.pinned (OpenSpec.ofChange fnExactFireVertexWrong)

/-- 'laws.FnExactEdgeValue': WHATEVER THE INPUT: true; the input reads as it did. -/
def fnExactEdgeValueSpec : ChangeSpec := { name := "fnExactEdgeValue", fn := fun _ => fun
  | [d1, d2, d3] => { results := [.lit (.bool true)], args := [d1, d2, d3] }
  | _ => none }
def fnExactEdgeValueRow : OpenClaim := { program := "ytnblhkhdilkbeaa", sum := "5a801f085e0307b3cc1fa579025dcadd72c578eaf0cdcc15e7082170db497799", func := "loop.example/g01298/laws.FnExactEdgeValue", spec := "fnExactEdgeValue", unfollowed := true, recurses := true, plainKeys := false, apart := false }
def FnExactEdgeValueSaid : Prop := fnExactEdgeValueRow.holds Try.pinned (OpenSpec.ofChange fnExactEdgeValueSpec)

/-- ITS FALSE NEIGHBOUR: 'it returns false'. Refute it at one input. -/
def fnExactEdgeValueWrong : ChangeSpec := { name := "fnExactEdgeValue", fn := fun _ => fun
  | [d1, d2, d3] => { results := [.lit (.bool false)], args := [d1, d2, d3] }
  | _ => none }
def FnExactEdgeValueWrongFalsely : Prop := fnExactEdgeValueRow.holds Try.pinned (OpenSpec.ofChange fnExactEdgeValueWrong)

/-- 'laws.FnExactRootsModulo': WHATEVER THE INPUT: true; the input reads as it did. -/
def fnExactRootsModuloSpec : ChangeSpec := { name := "fnExactRootsModulo", fn := fun _ => fun
  | [d1, d2] => { results := [.lit (.bool true)], args := [d1, d2] }
  | _ => none }
def fnExactRootsModuloRow : OpenClaim := { program := "ytnblhkhdilkbeaa", sum := "5a801f085e0307b3cc1fa579025dcadd72c578eaf0cdcc15e7082170db497799", func := "loop.example/g01298/laws.FnExactRootsModulo", spec := "fnExactRootsModulo", unfollowed := true, recurses := true, plainKeys := false, apart := false }
def FnExactRootsModuloSaid : Prop := fnExactRootsModuloRow.holds Try.pinned (OpenSpec.ofChange fnExactRootsModuloSpec)

/-- ITS FALSE NEIGHBOUR: 'it returns false'. Refute it at one input. -/
def fnExactRootsModuloWrong : ChangeSpec := { name := "fnExactRootsModulo", fn := fun _ => fun
  | [d1, d2] => { results := [.lit (.bool false)], args := [d1, d2] }
  | _ => none }
def FnExactRootsModuloWrongFalsely : Prop := fnExactRootsModuloRow.holds Try.pinned (OpenSpec.ofChange fnExactRootsModuloWrong)

/-- 'laws.FnExactResolventAt': WHATEVER THE INPUT: true; the input reads as it did. -/
def fnExactResolventAtSpec : ChangeSpec := { name := "fnExactResolventAt", fn := fun _ => fun
  | [d1, d2, d3, d4, d5] => { results := [.lit (.bool true)], args := [d1, d2, d3, d4, d5] }
  | _ => none }
def fnExactResolventAtRow : OpenClaim := { program := "ytnblhkhdilkbeaa", sum := "5a801f085e0307b3cc1fa579025dcadd72c578eaf0cdcc15e7082170db497799", func := "loop.example/g01298/laws.FnExactResolventAt", spec := "fnExactResolventAt", unfollowed := true, recurses := true, plainKeys := false, apart := false }
def FnExactResolventAtSaid : Prop := fnExactResolventAtRow.holds Try.pinned (OpenSpec.ofChange fnExactResolventAtSpec)

/-- ITS FALSE NEIGHBOUR: 'it returns false'. Refute it at one input. -/
def fnExactResolventAtWrong : ChangeSpec := { name := "fnExactResolventAt", fn := fun _ => fun
  | [d1, d2, d3, d4, d5] => { results := [.lit (.bool false)], args := [d1, d2, d3, d4, d5] }
  | _ => none }
def FnExactResolventAtWrongFalsely : Prop := fnExactResolventAtRow.holds Try.pinned (OpenSpec.ofChange fnExactResolventAtWrong)

/-- 'laws.FnExactTraceResolvent': WHATEVER THE INPUT: true; the input reads as it did. -/
def fnExactTraceResolventSpec : ChangeSpec := { name := "fnExactTraceResolvent", fn := fun _ => fun
  | [d1, d2, d3] => { results := [.lit (.bool true)], args := [d1, d2, d3] }
  | _ => none }
def fnExactTraceResolventRow : OpenClaim := { program := "ytnblhkhdilkbeaa", sum := "5a801f085e0307b3cc1fa579025dcadd72c578eaf0cdcc15e7082170db497799", func := "loop.example/g01298/laws.FnExactTraceResolvent", spec := "fnExactTraceResolvent", unfollowed := true, recurses := true, plainKeys := false, apart := false }
def FnExactTraceResolventSaid : Prop := fnExactTraceResolventRow.holds Try.pinned (OpenSpec.ofChange fnExactTraceResolventSpec)

/-- ITS FALSE NEIGHBOUR: 'it returns false'. Refute it at one input. -/
def fnExactTraceResolventWrong : ChangeSpec := { name := "fnExactTraceResolvent", fn := fun _ => fun
  | [d1, d2, d3] => { results := [.lit (.bool false)], args := [d1, d2, d3] }
  | _ => none }
def FnExactTraceResolventWrongFalsely : Prop := fnExactTraceResolventRow.holds Try.pinned (OpenSpec.ofChange fnExactTraceResolventWrong)

/-- 'laws.FnExactAllWalks': WHATEVER THE INPUT: true; the input reads as it did. -/
def fnExactAllWalksSpec : ChangeSpec := { name := "fnExactAllWalks", fn := fun _ => fun
  | [d1, d2] => { results := [.lit (.bool true)], args := [d1, d2] }
  | _ => none }
def fnExactAllWalksRow : OpenClaim := { program := "ytnblhkhdilkbeaa", sum := "5a801f085e0307b3cc1fa579025dcadd72c578eaf0cdcc15e7082170db497799", func := "loop.example/g01298/laws.FnExactAllWalks", spec := "fnExactAllWalks", unfollowed := true, recurses := true, plainKeys := false, apart := false }
def FnExactAllWalksSaid : Prop := fnExactAllWalksRow.holds Try.pinned (OpenSpec.ofChange fnExactAllWalksSpec)

/-- ITS FALSE NEIGHBOUR: 'it returns false'. Refute it at one input. -/
def fnExactAllWalksWrong : ChangeSpec := { name := "fnExactAllWalks", fn := fun _ => fun
  | [d1, d2] => { results := [.lit (.bool false)], args := [d1, d2] }
  | _ => none }
def FnExactAllWalksWrongFalsely : Prop := fnExactAllWalksRow.holds Try.pinned (OpenSpec.ofChange fnExactAllWalksWrong)

/-- 'laws.FnExactTurnTable': WHATEVER THE INPUT: true; the input reads as it did. -/
def fnExactTurnTableSpec : ChangeSpec := { name := "fnExactTurnTable", fn := fun _ => fun
  | [d1, d2] => { results := [.lit (.bool true)], args := [d1, d2] }
  | _ => none }
def fnExactTurnTableRow : OpenClaim := { program := "ytnblhkhdilkbeaa", sum := "5a801f085e0307b3cc1fa579025dcadd72c578eaf0cdcc15e7082170db497799", func := "loop.example/g01298/laws.FnExactTurnTable", spec := "fnExactTurnTable", unfollowed := true, recurses := true, plainKeys := false, apart := false }
def FnExactTurnTableSaid : Prop := fnExactTurnTableRow.holds Try.pinned (OpenSpec.ofChange fnExactTurnTableSpec)

/-- ITS FALSE NEIGHBOUR: 'it returns false'. Refute it at one input. -/
def fnExactTurnTableWrong : ChangeSpec := { name := "fnExactTurnTable", fn := fun _ => fun
  | [d1, d2] => { results := [.lit (.bool false)], args := [d1, d2] }
  | _ => none }
def FnExactTurnTableWrongFalsely : Prop := fnExactTurnTableRow.holds Try.pinned (OpenSpec.ofChange fnExactTurnTableWrong)

/-- 'laws.FnExactLeastCode': WHATEVER THE INPUT: true; the input reads as it did. -/
def fnExactLeastCodeSpec : ChangeSpec := { name := "fnExactLeastCode", fn := fun _ => fun
  | [d] => { results := [.lit (.bool true)], args := [d] }
  | _ => none }
def fnExactLeastCodeRow : OpenClaim := { program := "ytnblhkhdilkbeaa", sum := "5a801f085e0307b3cc1fa579025dcadd72c578eaf0cdcc15e7082170db497799", func := "loop.example/g01298/laws.FnExactLeastCode", spec := "fnExactLeastCode", unfollowed := true, recurses := true, plainKeys := false, apart := false }
def FnExactLeastCodeSaid : Prop := fnExactLeastCodeRow.holds Try.pinned (OpenSpec.ofChange fnExactLeastCodeSpec)

/-- ITS FALSE NEIGHBOUR: 'it returns false'. Refute it at one input. -/
def fnExactLeastCodeWrong : ChangeSpec := { name := "fnExactLeastCode", fn := fun _ => fun
  | [d] => { results := [.lit (.bool false)], args := [d] }
  | _ => none }
def FnExactLeastCodeWrongFalsely : Prop := fnExactLeastCodeRow.holds Try.pinned (OpenSpec.ofChange fnExactLeastCodeWrong)

/-- 'laws.FnExactSquarePolynomial': WHATEVER THE INPUT: true; the input reads as it did. -/
def fnExactSquarePolynomialSpec : ChangeSpec := { name := "fnExactSquarePolynomial", fn := fun _ => fun
  | [d] => { results := [.lit (.bool true)], args := [d] }
  | _ => none }
def fnExactSquarePolynomialRow : OpenClaim := { program := "ytnblhkhdilkbeaa", sum := "5a801f085e0307b3cc1fa579025dcadd72c578eaf0cdcc15e7082170db497799", func := "loop.example/g01298/laws.FnExactSquarePolynomial", spec := "fnExactSquarePolynomial", plainKeys := false, apart := false }
def FnExactSquarePolynomialSaid : Prop := fnExactSquarePolynomialRow.holds Try.pinned (OpenSpec.ofChange fnExactSquarePolynomialSpec)

/-- ITS FALSE NEIGHBOUR: 'it returns false'. Refute it at one input. -/
def fnExactSquarePolynomialWrong : ChangeSpec := { name := "fnExactSquarePolynomial", fn := fun _ => fun
  | [d] => { results := [.lit (.bool false)], args := [d] }
  | _ => none }
def FnExactSquarePolynomialWrongFalsely : Prop := fnExactSquarePolynomialRow.holds Try.pinned (OpenSpec.ofChange fnExactSquarePolynomialWrong)

/- THE SECOND FORM. 'bulk': how many values and letters a reading holds, each counted each time it is reached (what is shared counts as often as it is met; a slice's spare places count too). A statement '..UptoSaid' is the law's where the arguments, and the package variables that the reading takes, are together of bulk at most 1048576: NARROWER than '..Said'. Prove '..Said' where nothing that the law and all that it calls make is longer than what came in: it says more and counts as full. Else prove '..UptoSaid'. A law counts once. -/
mutual
def uptoBulk {H : Type} : DataW H → Nat
  | .lit (.string bytes) => bytes.length + 1
  | .lit _ => 1
  | .nil => 1
  | .ptr d => uptoBulk d + 1
  | .slice elems spare => uptoBulkAll elems + uptoBulkAll spare + 1
  | .agg parts => uptoBulkAll parts + 1
  | .iface _ d => uptoBulk d + 1
  | .map entries => uptoBulkEntries entries + 1
  | .held _ => 1
def uptoBulkAll {H : Type} : List (DataW H) → Nat
  | [] => 0
  | d :: r => uptoBulk d + uptoBulkAll r
def uptoBulkEntries {H : Type} : List (Lit × DataW H) → Nat
  | [] => 0
  | x :: r => uptoBulkEntry x + uptoBulkEntries r
def uptoBulkEntry {H : Type} : Lit × DataW H → Nat
  | (.string bytes, d) => bytes.length + uptoBulk d + 1
  | (_, d) => uptoBulk d + 1
 end
def uptoSmall : (H : Type) → List (DataW H) → Bool := fun _ ds => decide (uptoBulkAll ds ≤ 1048576)
def OpenSpec.upto (s : _root_.Go.ChangeSpec) : _root_.Go.OpenSpec := { _root_.Go.OpenSpec.ofChange s with cond := some uptoSmall }

/-- 'laws.FnExactIsDesk', WHERE WHAT IT READS IS OF BULK AT MOST 1048576: true; the input reads as it did. -/
def fnExactIsDeskUptoRow : OpenClaim := { program := "ytnblhkhdilkbeaa", sum := "5a801f085e0307b3cc1fa579025dcadd72c578eaf0cdcc15e7082170db497799", func := "loop.example/g01298/laws.FnExactIsDesk", spec := "fnExactIsDesk", unfollowed := true, recurses := true, plainKeys := false, apart := false, narrowed := true }
def FnExactIsDeskUptoSaid : Prop := fnExactIsDeskUptoRow.holds Try.pinned (OpenSpec.upto fnExactIsDeskSpec)

/-- 'laws.FnExactFireVertex', WHERE WHAT IT READS IS OF BULK AT MOST 1048576: true; the input reads as it did. -/
def fnExactFireVertexUptoRow : OpenClaim := { program := "ytnblhkhdilkbeaa", sum := "5a801f085e0307b3cc1fa579025dcadd72c578eaf0cdcc15e7082170db497799", func := "loop.example/g01298/laws.FnExactFireVertex", spec := "fnExactFireVertex", unfollowed := true, recurses := true, plainKeys := false, apart := false, narrowed := true }
def FnExactFireVertexUptoSaid : Prop := fnExactFireVertexUptoRow.holds Try.pinned (OpenSpec.upto fnExactFireVertexSpec)

/-- 'laws.FnExactEdgeValue', WHERE WHAT IT READS IS OF BULK AT MOST 1048576: true; the input reads as it did. -/
def fnExactEdgeValueUptoRow : OpenClaim := { program := "ytnblhkhdilkbeaa", sum := "5a801f085e0307b3cc1fa579025dcadd72c578eaf0cdcc15e7082170db497799", func := "loop.example/g01298/laws.FnExactEdgeValue", spec := "fnExactEdgeValue", unfollowed := true, recurses := true, plainKeys := false, apart := false, narrowed := true }
def FnExactEdgeValueUptoSaid : Prop := fnExactEdgeValueUptoRow.holds Try.pinned (OpenSpec.upto fnExactEdgeValueSpec)

/-- 'laws.FnExactRootsModulo', WHERE WHAT IT READS IS OF BULK AT MOST 1048576: true; the input reads as it did. -/
def fnExactRootsModuloUptoRow : OpenClaim := { program := "ytnblhkhdilkbeaa", sum := "5a801f085e0307b3cc1fa579025dcadd72c578eaf0cdcc15e7082170db497799", func := "loop.example/g01298/laws.FnExactRootsModulo", spec := "fnExactRootsModulo", unfollowed := true, recurses := true, plainKeys := false, apart := false, narrowed := true }
def FnExactRootsModuloUptoSaid : Prop := fnExactRootsModuloUptoRow.holds Try.pinned (OpenSpec.upto fnExactRootsModuloSpec)

/-- 'laws.FnExactResolventAt', WHERE WHAT IT READS IS OF BULK AT MOST 1048576: true; the input reads as it did. -/
def fnExactResolventAtUptoRow : OpenClaim := { program := "ytnblhkhdilkbeaa", sum := "5a801f085e0307b3cc1fa579025dcadd72c578eaf0cdcc15e7082170db497799", func := "loop.example/g01298/laws.FnExactResolventAt", spec := "fnExactResolventAt", unfollowed := true, recurses := true, plainKeys := false, apart := false, narrowed := true }
def FnExactResolventAtUptoSaid : Prop := fnExactResolventAtUptoRow.holds Try.pinned (OpenSpec.upto fnExactResolventAtSpec)

/-- 'laws.FnExactTraceResolvent', WHERE WHAT IT READS IS OF BULK AT MOST 1048576: true; the input reads as it did. -/
def fnExactTraceResolventUptoRow : OpenClaim := { program := "ytnblhkhdilkbeaa", sum := "5a801f085e0307b3cc1fa579025dcadd72c578eaf0cdcc15e7082170db497799", func := "loop.example/g01298/laws.FnExactTraceResolvent", spec := "fnExactTraceResolvent", unfollowed := true, recurses := true, plainKeys := false, apart := false, narrowed := true }
def FnExactTraceResolventUptoSaid : Prop := fnExactTraceResolventUptoRow.holds Try.pinned (OpenSpec.upto fnExactTraceResolventSpec)

/-- 'laws.FnExactAllWalks', WHERE WHAT IT READS IS OF BULK AT MOST 1048576: true; the input reads as it did. -/
def fnExactAllWalksUptoRow : OpenClaim := { program := "ytnblhkhdilkbeaa", sum := "5a801f085e0307b3cc1fa579025dcadd72c578eaf0cdcc15e7082170db497799", func := "loop.example/g01298/laws.FnExactAllWalks", spec := "fnExactAllWalks", unfollowed := true, recurses := true, plainKeys := false, apart := false, narrowed := true }
def FnExactAllWalksUptoSaid : Prop := fnExactAllWalksUptoRow.holds Try.pinned (OpenSpec.upto fnExactAllWalksSpec)

/-- 'laws.FnExactTurnTable', WHERE WHAT IT READS IS OF BULK AT MOST 1048576: true; the input reads as it did. -/
def fnExactTurnTableUptoRow : OpenClaim := { program := "ytnblhkhdilkbeaa", sum := "5a801f085e0307b3cc1fa579025dcadd72c578eaf0cdcc15e7082170db497799", func := "loop.example/g01298/laws.FnExactTurnTable", spec := "fnExactTurnTable", unfollowed := true, recurses := true, plainKeys := false, apart := false, narrowed := true }
def FnExactTurnTableUptoSaid : Prop := fnExactTurnTableUptoRow.holds Try.pinned (OpenSpec.upto fnExactTurnTableSpec)

/-- 'laws.FnExactLeastCode', WHERE WHAT IT READS IS OF BULK AT MOST 1048576: true; the input reads as it did. -/
def fnExactLeastCodeUptoRow : OpenClaim := { program := "ytnblhkhdilkbeaa", sum := "5a801f085e0307b3cc1fa579025dcadd72c578eaf0cdcc15e7082170db497799", func := "loop.example/g01298/laws.FnExactLeastCode", spec := "fnExactLeastCode", unfollowed := true, recurses := true, plainKeys := false, apart := false, narrowed := true }
def FnExactLeastCodeUptoSaid : Prop := fnExactLeastCodeUptoRow.holds Try.pinned (OpenSpec.upto fnExactLeastCodeSpec)

/-- 'laws.FnExactSquarePolynomial', WHERE WHAT IT READS IS OF BULK AT MOST 1048576: true; the input reads as it did. -/
def fnExactSquarePolynomialUptoRow : OpenClaim := { program := "ytnblhkhdilkbeaa", sum := "5a801f085e0307b3cc1fa579025dcadd72c578eaf0cdcc15e7082170db497799", func := "loop.example/g01298/laws.FnExactSquarePolynomial", spec := "fnExactSquarePolynomial", plainKeys := false, apart := false, narrowed := true }
def FnExactSquarePolynomialUptoSaid : Prop := fnExactSquarePolynomialUptoRow.holds Try.pinned (OpenSpec.upto fnExactSquarePolynomialSpec)

end Rows
end Go.Proofs.Ytnblhkhdilkbeaa
