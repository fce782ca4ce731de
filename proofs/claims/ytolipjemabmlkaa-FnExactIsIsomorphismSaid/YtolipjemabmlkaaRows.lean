/-
  No cell of these rows narrows 'for every input' (looked for: loops, veiled, ifaces, maps, wideKeys, modest, calm, conditions, laid).
  DERIVED. THE GIVEN ROWS OF THIS SEAT. 14 by the template 'for every input the law returns true; each argument reads behind the call as it read before'; 0 by the template 'total and deterministic' (their statements: YtolipjemabmlkaaTotals.lean).
  GIVEN WITH THE SEED: the statements are not yours to turn. If you find one false, say at which input.
  Laid BY PROGRAM, IN A SANDBOX (cutbox-rows.mjs): the forced cells as the released guide's own fill.sh prints them over the translation cad22ae38ef74f13… (all of the seat's roots in one cut). By AI agents, Wed Nov 11 2026. No macro, syntax, notation, axiom, sorry.
-/
import Derived.Test.YtolipjemabmlkaaChecked
import GoSem.Claim
import GoSem.ClaimJoined
import GoSem.ClaimMapViews
import Derived.JoinedTies
import Derived.KernelRfl
namespace Go.Proofs.Ytolipjemabmlkaa
/- THE CELL 'sum', in the pinned program and in every row, IS THE sha256 OF THE DUMP (.gsa) THAT YtolipjemabmlkaaProg.lean LOADS. Nothing in Lean hashes anything: it is a label: what it is worth is what the hold of that sum in a sandbox is worth. -/
noncomputable def Try.pinned : Pinned := { name := "ytolipjemabmlkaa", sum := "cad22ae38ef74f13b95930af750126db79635ffc8aa7ff017ee8ba32322ab6a8", checked := Try.checked }
namespace Rows
def none {H : Type} : Left H := { results := [], args := [] }

/-- 'laws.FnExactVertexFactor': WHATEVER THE INPUT: true; the input reads as it did. -/
def fnExactVertexFactorSpec : ChangeSpec := { name := "fnExactVertexFactor", fn := fun _ => fun
  | [d] => { results := [.lit (.bool true)], args := [d] }
  | _ => none }
def fnExactVertexFactorRow : OpenClaim := { program := "ytolipjemabmlkaa", sum := "cad22ae38ef74f13b95930af750126db79635ffc8aa7ff017ee8ba32322ab6a8", func := "loop.example/g01298/laws.FnExactVertexFactor", spec := "fnExactVertexFactor", plainKeys := false, apart := false }
def FnExactVertexFactorSaid : Prop := fnExactVertexFactorRow.holds Try.pinned (OpenSpec.ofChange fnExactVertexFactorSpec)

/-- ITS FALSE NEIGHBOUR: 'it returns false'. Refute it at one input. -/
def fnExactVertexFactorWrong : ChangeSpec := { name := "fnExactVertexFactor", fn := fun _ => fun
  | [d] => { results := [.lit (.bool false)], args := [d] }
  | _ => none }
def FnExactVertexFactorWrongFalsely : Prop := fnExactVertexFactorRow.holds Try.pinned (OpenSpec.ofChange fnExactVertexFactorWrong)

/-- 'laws.FnExactBartholdiFactor': WHATEVER THE INPUT: true; the input reads as it did. -/
def fnExactBartholdiFactorSpec : ChangeSpec := { name := "fnExactBartholdiFactor", fn := fun _ => fun
  | [d1, d2, d3] => { results := [.lit (.bool true)], args := [d1, d2, d3] }
  | _ => none }
def fnExactBartholdiFactorRow : OpenClaim := { program := "ytolipjemabmlkaa", sum := "cad22ae38ef74f13b95930af750126db79635ffc8aa7ff017ee8ba32322ab6a8", func := "loop.example/g01298/laws.FnExactBartholdiFactor", spec := "fnExactBartholdiFactor", unfollowed := true, recurses := true, plainKeys := false, apart := false }
def FnExactBartholdiFactorSaid : Prop := fnExactBartholdiFactorRow.holds Try.pinned (OpenSpec.ofChange fnExactBartholdiFactorSpec)

/-- ITS FALSE NEIGHBOUR: 'it returns false'. Refute it at one input. -/
def fnExactBartholdiFactorWrong : ChangeSpec := { name := "fnExactBartholdiFactor", fn := fun _ => fun
  | [d1, d2, d3] => { results := [.lit (.bool false)], args := [d1, d2, d3] }
  | _ => none }
def FnExactBartholdiFactorWrongFalsely : Prop := fnExactBartholdiFactorRow.holds Try.pinned (OpenSpec.ofChange fnExactBartholdiFactorWrong)

/-- 'laws.FnExactIsIsomorphism': WHATEVER THE INPUT: true; the input reads as it did. -/
def fnExactIsIsomorphismSpec : ChangeSpec := { name := "fnExactIsIsomorphism", fn := fun _ => fun
  | [d1, d2, d3] => { results := [.lit (.bool true)], args := [d1, d2, d3] }
  | _ => none }
def fnExactIsIsomorphismRow : OpenClaim := { program := "ytolipjemabmlkaa", sum := "cad22ae38ef74f13b95930af750126db79635ffc8aa7ff017ee8ba32322ab6a8", func := "loop.example/g01298/laws.FnExactIsIsomorphism", spec := "fnExactIsIsomorphism", unfollowed := true, recurses := true, plainKeys := false, apart := false }
def FnExactIsIsomorphismSaid : Prop := fnExactIsIsomorphismRow.holds Try.pinned (OpenSpec.ofChange fnExactIsIsomorphismSpec)

/-- ITS FALSE NEIGHBOUR: 'it returns false'. Refute it at one input. -/
def fnExactIsIsomorphismWrong : ChangeSpec := { name := "fnExactIsIsomorphism", fn := fun _ => fun
  | [d1, d2, d3] => { results := [.lit (.bool false)], args := [d1, d2, d3] }
  | _ => none }
def FnExactIsIsomorphismWrongFalsely : Prop := fnExactIsIsomorphismRow.holds Try.pinned (OpenSpec.ofChange fnExactIsIsomorphismWrong)

/-- 'laws.FnExactRenumberGraph': WHATEVER THE INPUT: true; the input reads as it did. -/
def fnExactRenumberGraphSpec : ChangeSpec := { name := "fnExactRenumberGraph", fn := fun _ => fun
  | [d1, d2] => { results := [.lit (.bool true)], args := [d1, d2] }
  | _ => none }
def fnExactRenumberGraphRow : OpenClaim := { program := "ytolipjemabmlkaa", sum := "cad22ae38ef74f13b95930af750126db79635ffc8aa7ff017ee8ba32322ab6a8", func := "loop.example/g01298/laws.FnExactRenumberGraph", spec := "fnExactRenumberGraph", unfollowed := true, recurses := true, plainKeys := false, apart := false }
def FnExactRenumberGraphSaid : Prop := fnExactRenumberGraphRow.holds Try.pinned (OpenSpec.ofChange fnExactRenumberGraphSpec)

/-- ITS FALSE NEIGHBOUR: 'it returns false'. Refute it at one input. -/
def fnExactRenumberGraphWrong : ChangeSpec := { name := "fnExactRenumberGraph", fn := fun _ => fun
  | [d1, d2] => { results := [.lit (.bool false)], args := [d1, d2] }
  | _ => none }
def FnExactRenumberGraphWrongFalsely : Prop := fnExactRenumberGraphRow.holds Try.pinned (OpenSpec.ofChange fnExactRenumberGraphWrong)

/-- 'laws.FnExactCodeOf': WHATEVER THE INPUT: true; the input reads as it did. -/
def fnExactCodeOfSpec : ChangeSpec := { name := "fnExactCodeOf", fn := fun _ => fun
  | [d] => { results := [.lit (.bool true)], args := [d] }
  | _ => none }
def fnExactCodeOfRow : OpenClaim := { program := "ytolipjemabmlkaa", sum := "cad22ae38ef74f13b95930af750126db79635ffc8aa7ff017ee8ba32322ab6a8", func := "loop.example/g01298/laws.FnExactCodeOf", spec := "fnExactCodeOf", plainKeys := false, apart := false }
def FnExactCodeOfSaid : Prop := fnExactCodeOfRow.holds Try.pinned (OpenSpec.ofChange fnExactCodeOfSpec)

/-- ITS FALSE NEIGHBOUR: 'it returns false'. Refute it at one input. -/
def fnExactCodeOfWrong : ChangeSpec := { name := "fnExactCodeOf", fn := fun _ => fun
  | [d] => { results := [.lit (.bool false)], args := [d] }
  | _ => none }
def FnExactCodeOfWrongFalsely : Prop := fnExactCodeOfRow.holds Try.pinned (OpenSpec.ofChange fnExactCodeOfWrong)

/-- 'laws.FnExactSpectrumOf': WHATEVER THE INPUT: true; the input reads as it did. -/
def fnExactSpectrumOfSpec : ChangeSpec := { name := "fnExactSpectrumOf", fn := fun _ => fun
  | [d] => { results := [.lit (.bool true)], args := [d] }
  | _ => none }
def fnExactSpectrumOfRow : OpenClaim := { program := "ytolipjemabmlkaa", sum := "cad22ae38ef74f13b95930af750126db79635ffc8aa7ff017ee8ba32322ab6a8", func := "loop.example/g01298/laws.FnExactSpectrumOf", spec := "fnExactSpectrumOf", plainKeys := false, apart := false }
def FnExactSpectrumOfSaid : Prop := fnExactSpectrumOfRow.holds Try.pinned (OpenSpec.ofChange fnExactSpectrumOfSpec)

/-- ITS FALSE NEIGHBOUR: 'it returns false'. Refute it at one input. -/
def fnExactSpectrumOfWrong : ChangeSpec := { name := "fnExactSpectrumOf", fn := fun _ => fun
  | [d] => { results := [.lit (.bool false)], args := [d] }
  | _ => none }
def FnExactSpectrumOfWrongFalsely : Prop := fnExactSpectrumOfRow.holds Try.pinned (OpenSpec.ofChange fnExactSpectrumOfWrong)

/-- 'laws.FnExactDoLookAlike': WHATEVER THE INPUT: true; the input reads as it did. -/
def fnExactDoLookAlikeSpec : ChangeSpec := { name := "fnExactDoLookAlike", fn := fun _ => fun
  | [d1, d2] => { results := [.lit (.bool true)], args := [d1, d2] }
  | _ => none }
def fnExactDoLookAlikeRow : OpenClaim := { program := "ytolipjemabmlkaa", sum := "cad22ae38ef74f13b95930af750126db79635ffc8aa7ff017ee8ba32322ab6a8", func := "loop.example/g01298/laws.FnExactDoLookAlike", spec := "fnExactDoLookAlike", plainKeys := false, apart := false }
def FnExactDoLookAlikeSaid : Prop := fnExactDoLookAlikeRow.holds Try.pinned (OpenSpec.ofChange fnExactDoLookAlikeSpec)

/-- ITS FALSE NEIGHBOUR: 'it returns false'. Refute it at one input. -/
def fnExactDoLookAlikeWrong : ChangeSpec := { name := "fnExactDoLookAlike", fn := fun _ => fun
  | [d1, d2] => { results := [.lit (.bool false)], args := [d1, d2] }
  | _ => none }
def FnExactDoLookAlikeWrongFalsely : Prop := fnExactDoLookAlikeRow.holds Try.pinned (OpenSpec.ofChange fnExactDoLookAlikeWrong)

/-- 'laws.FnExactIsSimple': WHATEVER THE INPUT: true; the input reads as it did. -/
def fnExactIsSimpleSpec : ChangeSpec := { name := "fnExactIsSimple", fn := fun _ => fun
  | [d] => { results := [.lit (.bool true)], args := [d] }
  | _ => none }
def fnExactIsSimpleRow : OpenClaim := { program := "ytolipjemabmlkaa", sum := "cad22ae38ef74f13b95930af750126db79635ffc8aa7ff017ee8ba32322ab6a8", func := "loop.example/g01298/laws.FnExactIsSimple", spec := "fnExactIsSimple", plainKeys := false, apart := false }
def FnExactIsSimpleSaid : Prop := fnExactIsSimpleRow.holds Try.pinned (OpenSpec.ofChange fnExactIsSimpleSpec)

/-- ITS FALSE NEIGHBOUR: 'it returns false'. Refute it at one input. -/
def fnExactIsSimpleWrong : ChangeSpec := { name := "fnExactIsSimple", fn := fun _ => fun
  | [d] => { results := [.lit (.bool false)], args := [d] }
  | _ => none }
def FnExactIsSimpleWrongFalsely : Prop := fnExactIsSimpleRow.holds Try.pinned (OpenSpec.ofChange fnExactIsSimpleWrong)

/-- 'laws.FnExactComplementOf': WHATEVER THE INPUT: true; the input reads as it did. -/
def fnExactComplementOfSpec : ChangeSpec := { name := "fnExactComplementOf", fn := fun _ => fun
  | [d] => { results := [.lit (.bool true)], args := [d] }
  | _ => none }
def fnExactComplementOfRow : OpenClaim := { program := "ytolipjemabmlkaa", sum := "cad22ae38ef74f13b95930af750126db79635ffc8aa7ff017ee8ba32322ab6a8", func := "loop.example/g01298/laws.FnExactComplementOf", spec := "fnExactComplementOf", plainKeys := false, apart := false }
def FnExactComplementOfSaid : Prop := fnExactComplementOfRow.holds Try.pinned (OpenSpec.ofChange fnExactComplementOfSpec)

/-- ITS FALSE NEIGHBOUR: 'it returns false'. Refute it at one input. -/
def fnExactComplementOfWrong : ChangeSpec := { name := "fnExactComplementOf", fn := fun _ => fun
  | [d] => { results := [.lit (.bool false)], args := [d] }
  | _ => none }
def FnExactComplementOfWrongFalsely : Prop := fnExactComplementOfRow.holds Try.pinned (OpenSpec.ofChange fnExactComplementOfWrong)

/-- 'laws.FnExactDoesSwitch': WHATEVER THE INPUT: true; the input reads as it did. -/
def fnExactDoesSwitchSpec : ChangeSpec := { name := "fnExactDoesSwitch", fn := fun _ => fun
  | [d1, d2] => { results := [.lit (.bool true)], args := [d1, d2] }
  | _ => none }
def fnExactDoesSwitchRow : OpenClaim := { program := "ytolipjemabmlkaa", sum := "cad22ae38ef74f13b95930af750126db79635ffc8aa7ff017ee8ba32322ab6a8", func := "loop.example/g01298/laws.FnExactDoesSwitch", spec := "fnExactDoesSwitch", plainKeys := false, apart := false }
def FnExactDoesSwitchSaid : Prop := fnExactDoesSwitchRow.holds Try.pinned (OpenSpec.ofChange fnExactDoesSwitchSpec)

/-- ITS FALSE NEIGHBOUR: 'it returns false'. Refute it at one input. -/
def fnExactDoesSwitchWrong : ChangeSpec := { name := "fnExactDoesSwitch", fn := fun _ => fun
  | [d1, d2] => { results := [.lit (.bool false)], args := [d1, d2] }
  | _ => none }
def FnExactDoesSwitchWrongFalsely : Prop := fnExactDoesSwitchRow.holds Try.pinned (OpenSpec.ofChange fnExactDoesSwitchWrong)

/-- 'laws.FnExactSwitchGraph': WHATEVER THE INPUT: true; the input reads as it did. -/
def fnExactSwitchGraphSpec : ChangeSpec := { name := "fnExactSwitchGraph", fn := fun _ => fun
  | [d1, d2] => { results := [.lit (.bool true)], args := [d1, d2] }
  | _ => none }
def fnExactSwitchGraphRow : OpenClaim := { program := "ytolipjemabmlkaa", sum := "cad22ae38ef74f13b95930af750126db79635ffc8aa7ff017ee8ba32322ab6a8", func := "loop.example/g01298/laws.FnExactSwitchGraph", spec := "fnExactSwitchGraph", plainKeys := false, apart := false }
def FnExactSwitchGraphSaid : Prop := fnExactSwitchGraphRow.holds Try.pinned (OpenSpec.ofChange fnExactSwitchGraphSpec)

/-- ITS FALSE NEIGHBOUR: 'it returns false'. Refute it at one input. -/
def fnExactSwitchGraphWrong : ChangeSpec := { name := "fnExactSwitchGraph", fn := fun _ => fun
  | [d1, d2] => { results := [.lit (.bool false)], args := [d1, d2] }
  | _ => none }
def FnExactSwitchGraphWrongFalsely : Prop := fnExactSwitchGraphRow.holds Try.pinned (OpenSpec.ofChange fnExactSwitchGraphWrong)

/-- 'laws.FnExactLineGraph': WHATEVER THE INPUT: true; the input reads as it did. -/
def fnExactLineGraphSpec : ChangeSpec := { name := "fnExactLineGraph", fn := fun _ => fun
  | [d] => { results := [.lit (.bool true)], args := [d] }
  | _ => none }
def fnExactLineGraphRow : OpenClaim := { program := "ytolipjemabmlkaa", sum := "cad22ae38ef74f13b95930af750126db79635ffc8aa7ff017ee8ba32322ab6a8", func := "loop.example/g01298/laws.FnExactLineGraph", spec := "fnExactLineGraph", unfollowed := true, recurses := true, plainKeys := false, apart := false }
def FnExactLineGraphSaid : Prop := fnExactLineGraphRow.holds Try.pinned (OpenSpec.ofChange fnExactLineGraphSpec)

/-- ITS FALSE NEIGHBOUR: 'it returns false'. Refute it at one input. -/
def fnExactLineGraphWrong : ChangeSpec := { name := "fnExactLineGraph", fn := fun _ => fun
  | [d] => { results := [.lit (.bool false)], args := [d] }
  | _ => none }
def FnExactLineGraphWrongFalsely : Prop := fnExactLineGraphRow.holds Try.pinned (OpenSpec.ofChange fnExactLineGraphWrong)

/-- 'laws.FnExactCountAutomorphisms': WHATEVER THE INPUT: true; the input reads as it did. -/
def fnExactCountAutomorphismsSpec : ChangeSpec := { name := "fnExactCountAutomorphisms", fn := fun _ => fun
  | [d] => { results := [.lit (.bool true)], args := [d] }
  | _ => none }
def fnExactCountAutomorphismsRow : OpenClaim := { program := "ytolipjemabmlkaa", sum := "cad22ae38ef74f13b95930af750126db79635ffc8aa7ff017ee8ba32322ab6a8", func := "loop.example/g01298/laws.FnExactCountAutomorphisms", spec := "fnExactCountAutomorphisms", unfollowed := true, recurses := true, plainKeys := false, apart := false }
def FnExactCountAutomorphismsSaid : Prop := fnExactCountAutomorphismsRow.holds Try.pinned (OpenSpec.ofChange fnExactCountAutomorphismsSpec)

/-- ITS FALSE NEIGHBOUR: 'it returns false'. Refute it at one input. -/
def fnExactCountAutomorphismsWrong : ChangeSpec := { name := "fnExactCountAutomorphisms", fn := fun _ => fun
  | [d] => { results := [.lit (.bool false)], args := [d] }
  | _ => none }
def FnExactCountAutomorphismsWrongFalsely : Prop := fnExactCountAutomorphismsRow.holds Try.pinned (OpenSpec.ofChange fnExactCountAutomorphismsWrong)

/-- 'laws.FnExactLeastCode': WHATEVER THE INPUT: true; the input reads as it did. -/
def fnExactLeastCodeSpec : ChangeSpec := { name := "fnExactLeastCode", fn := fun _ => fun
  | [d] => { results := [.lit (.bool true)], args := [d] }
  | _ => none }
def fnExactLeastCodeRow : OpenClaim := { program := "ytolipjemabmlkaa", sum := "cad22ae38ef74f13b95930af750126db79635ffc8aa7ff017ee8ba32322ab6a8", func := "loop.example/g01298/laws.FnExactLeastCode", spec := "fnExactLeastCode", unfollowed := true, recurses := true, plainKeys := false, apart := false }
def FnExactLeastCodeSaid : Prop := fnExactLeastCodeRow.holds Try.pinned (OpenSpec.ofChange fnExactLeastCodeSpec)

/-- ITS FALSE NEIGHBOUR: 'it returns false'. Refute it at one input. -/
def fnExactLeastCodeWrong : ChangeSpec := { name := "fnExactLeastCode", fn := fun _ => fun
  | [d] => { results := [.lit (.bool false)], args := [d] }
  | _ => none }
def FnExactLeastCodeWrongFalsely : Prop := fnExactLeastCodeRow.holds Try.pinned (OpenSpec.ofChange fnExactLeastCodeWrong)

/- THE SECOND FORM. 'bulk': how many values and letters a reading holds, each counted each time it is reached (what is shared counts as often as it is met; a slice's spare places count too). A statement '..UptoSaid' is the law's where the arguments, and the package variables that the reading takes, are together of bulk at most 1048576: NARROWER than '..Said'. Prove '..Said' where nothing that the law and all that it calls make is longer than what came in: it says more and counts as full. Else prove '..UptoSaid'. A law counts once. -/
mutual
def uptoBulk {H : Type} : DataW H → Nat
  | .lit (.string bytes) => bytes.length + 1
  | .lit _ => 1
  | .nil => 1
  | .ptr d => uptoBulk d + 1
  | .slice elems spare => uptoBulkAll elems + uptoBulkAll spare + 1
  | .agg parts => uptoBulkAll parts + 1
  | .iface _ d => uptoBulk d + 1
  | .map entries => uptoBulkEntries entries + 1
  | .held _ => 1
def uptoBulkAll {H : Type} : List (DataW H) → Nat
  | [] => 0
  | d :: r => uptoBulk d + uptoBulkAll r
def uptoBulkEntries {H : Type} : List (Lit × DataW H) → Nat
  | [] => 0
  | x :: r => uptoBulkEntry x + uptoBulkEntries r
def uptoBulkEntry {H : Type} : Lit × DataW H → Nat
  | (.string bytes, d) => bytes.length + uptoBulk d + 1
  | (_, d) => uptoBulk d + 1
 end
def uptoSmall : (H : Type) → List (DataW H) → Bool := fun _ ds => decide (uptoBulkAll ds ≤ 1048576)
def OpenSpec.upto (s : _root_.Go.ChangeSpec) : _root_.Go.OpenSpec := { _root_.Go.OpenSpec.ofChange s with cond := some uptoSmall }

/-- 'laws.FnExactVertexFactor', WHERE WHAT IT READS IS OF BULK AT MOST 1048576: true; the input reads as it did. -/
def fnExactVertexFactorUptoRow : OpenClaim := { program := "ytolipjemabmlkaa", sum := "cad22ae38ef74f13b95930af750126db79635ffc8aa7ff017ee8ba32322ab6a8", func := "loop.example/g01298/laws.FnExactVertexFactor", spec := "fnExactVertexFactor", plainKeys := false, apart := false, narrowed := true }
def FnExactVertexFactorUptoSaid : Prop := fnExactVertexFactorUptoRow.holds Try.pinned (OpenSpec.upto fnExactVertexFactorSpec)

/-- 'laws.FnExactBartholdiFactor', WHERE WHAT IT READS IS OF BULK AT MOST 1048576: true; the input reads as it did. -/
def fnExactBartholdiFactorUptoRow : OpenClaim := { program := "ytolipjemabmlkaa", sum := "cad22ae38ef74f13b95930af750126db79635ffc8aa7ff017ee8ba32322ab6a8", func := "loop.example/g01298/laws.FnExactBartholdiFactor", spec := "fnExactBartholdiFactor", unfollowed := true, recurses := true, plainKeys := false, apart := false, narrowed := true }
def FnExactBartholdiFactorUptoSaid : Prop := fnExactBartholdiFactorUptoRow.holds Try.pinned (OpenSpec.upto fnExactBartholdiFactorSpec)

/-- 'laws.FnExactIsIsomorphism', WHERE WHAT IT READS IS OF BULK AT MOST 1048576: true; the input reads as it did. -/
def fnExactIsIsomorphismUptoRow : OpenClaim := { program := "ytolipjemabmlkaa", sum := "cad22ae38ef74f13b95930af750126db79635ffc8aa7ff017ee8ba32322ab6a8", func := "loop.example/g01298/laws.FnExactIsIsomorphism", spec := "fnExactIsIsomorphism", unfollowed := true, recurses := true, plainKeys := false, apart := false, narrowed := true }
def FnExactIsIsomorphismUptoSaid : Prop := fnExactIsIsomorphismUptoRow.holds Try.pinned (OpenSpec.upto fnExactIsIsomorphismSpec)

/-- 'laws.FnExactRenumberGraph', WHERE WHAT IT READS IS OF BULK AT MOST 1048576: true; the input reads as it did. -/
def fnExactRenumberGraphUptoRow : OpenClaim := { program := "ytolipjemabmlkaa", sum := "cad22ae38ef74f13b95930af750126db79635ffc8aa7ff017ee8ba32322ab6a8", func := "loop.example/g01298/laws.FnExactRenumberGraph", spec := "fnExactRenumberGraph", unfollowed := true, recurses := true, plainKeys := false, apart := false, narrowed := true }
def FnExactRenumberGraphUptoSaid : Prop := fnExactRenumberGraphUptoRow.holds Try.pinned (OpenSpec.upto fnExactRenumberGraphSpec)

/-- 'laws.FnExactCodeOf', WHERE WHAT IT READS IS OF BULK AT MOST 1048576: true; the input reads as it did. -/
def fnExactCodeOfUptoRow : OpenClaim := { program := "ytolipjemabmlkaa", sum := "cad22ae38ef74f13b95930af750126db79635ffc8aa7ff017ee8ba32322ab6a8", func := "loop.example/g01298/laws.FnExactCodeOf", spec := "fnExactCodeOf", plainKeys := false, apart := false, narrowed := true }
def FnExactCodeOfUptoSaid : Prop := fnExactCodeOfUptoRow.holds Try.pinned (OpenSpec.upto fnExactCodeOfSpec)

/-- 'laws.FnExactSpectrumOf', WHERE WHAT IT READS IS OF BULK AT MOST 1048576: true; the input reads as it did. -/
def fnExactSpectrumOfUptoRow : OpenClaim := { program := "ytolipjemabmlkaa", sum := "cad22ae38ef74f13b95930af750126db79635ffc8aa7ff017ee8ba32322ab6a8", func := "loop.example/g01298/laws.FnExactSpectrumOf", spec := "fnExactSpectrumOf", plainKeys := false, apart := false, narrowed := true }
def FnExactSpectrumOfUptoSaid : Prop := fnExactSpectrumOfUptoRow.holds Try.pinned (OpenSpec.upto fnExactSpectrumOfSpec)

/-- 'laws.FnExactDoLookAlike', WHERE WHAT IT READS IS OF BULK AT MOST 1048576: true; the input reads as it did. -/
def fnExactDoLookAlikeUptoRow : OpenClaim := { program := "ytolipjemabmlkaa", sum := "cad22ae38ef74f13b95930af750126db79635ffc8aa7ff017ee8ba32322ab6a8", func := "loop.example/g01298/laws.FnExactDoLookAlike", spec := "fnExactDoLookAlike", plainKeys := false, apart := false, narrowed := true }
def FnExactDoLookAlikeUptoSaid : Prop := fnExactDoLookAlikeUptoRow.holds Try.pinned (OpenSpec.upto fnExactDoLookAlikeSpec)

/-- 'laws.FnExactIsSimple', WHERE WHAT IT READS IS OF BULK AT MOST 1048576: true; the input reads as it did. -/
def fnExactIsSimpleUptoRow : OpenClaim := { program := "ytolipjemabmlkaa", sum := "cad22ae38ef74f13b95930af750126db79635ffc8aa7ff017ee8ba32322ab6a8", func := "loop.example/g01298/laws.FnExactIsSimple", spec := "fnExactIsSimple", plainKeys := false, apart := false, narrowed := true }
def FnExactIsSimpleUptoSaid : Prop := fnExactIsSimpleUptoRow.holds Try.pinned (OpenSpec.upto fnExactIsSimpleSpec)

/-- 'laws.FnExactComplementOf', WHERE WHAT IT READS IS OF BULK AT MOST 1048576: true; the input reads as it did. -/
def fnExactComplementOfUptoRow : OpenClaim := { program := "ytolipjemabmlkaa", sum := "cad22ae38ef74f13b95930af750126db79635ffc8aa7ff017ee8ba32322ab6a8", func := "loop.example/g01298/laws.FnExactComplementOf", spec := "fnExactComplementOf", plainKeys := false, apart := false, narrowed := true }
def FnExactComplementOfUptoSaid : Prop := fnExactComplementOfUptoRow.holds Try.pinned (OpenSpec.upto fnExactComplementOfSpec)

/-- 'laws.FnExactDoesSwitch', WHERE WHAT IT READS IS OF BULK AT MOST 1048576: true; the input reads as it did. -/
def fnExactDoesSwitchUptoRow : OpenClaim := { program := "ytolipjemabmlkaa", sum := "cad22ae38ef74f13b95930af750126db79635ffc8aa7ff017ee8ba32322ab6a8", func := "loop.example/g01298/laws.FnExactDoesSwitch", spec := "fnExactDoesSwitch", plainKeys := false, apart := false, narrowed := true }
def FnExactDoesSwitchUptoSaid : Prop := fnExactDoesSwitchUptoRow.holds Try.pinned (OpenSpec.upto fnExactDoesSwitchSpec)

/-- 'laws.FnExactSwitchGraph', WHERE WHAT IT READS IS OF BULK AT MOST 1048576: true; the input reads as it did. -/
def fnExactSwitchGraphUptoRow : OpenClaim := { program := "ytolipjemabmlkaa", sum := "cad22ae38ef74f13b95930af750126db79635ffc8aa7ff017ee8ba32322ab6a8", func := "loop.example/g01298/laws.FnExactSwitchGraph", spec := "fnExactSwitchGraph", plainKeys := false, apart := false, narrowed := true }
def FnExactSwitchGraphUptoSaid : Prop := fnExactSwitchGraphUptoRow.holds Try.pinned (OpenSpec.upto fnExactSwitchGraphSpec)

/-- 'laws.FnExactLineGraph', WHERE WHAT IT READS IS OF BULK AT MOST 1048576: true; the input reads as it did. -/
def fnExactLineGraphUptoRow : OpenClaim := { program := "ytolipjemabmlkaa", sum := "cad22ae38ef74f13b95930af750126db79635ffc8aa7ff017ee8ba32322ab6a8", func := "loop.example/g01298/laws.FnExactLineGraph", spec := "fnExactLineGraph", unfollowed := true, recurses := true, plainKeys := false, apart := false, narrowed := true }
def FnExactLineGraphUptoSaid : Prop := fnExactLineGraphUptoRow.holds Try.pinned (OpenSpec.upto fnExactLineGraphSpec)

/-- 'laws.FnExactCountAutomorphisms', WHERE WHAT IT READS IS OF BULK AT MOST 1048576: true; the input reads as it did. -/
def fnExactCountAutomorphismsUptoRow : OpenClaim := { program := "ytolipjemabmlkaa", sum := "cad22ae38ef74f13b95930af750126db79635ffc8aa7ff017ee8ba32322ab6a8", func := "loop.example/g01298/laws.FnExactCountAutomorphisms", spec := "fnExactCountAutomorphisms", unfollowed := true, recurses := true, plainKeys := false, apart := false, narrowed := true }
def FnExactCountAutomorphismsUptoSaid : Prop := fnExactCountAutomorphismsUptoRow.holds Try.pinned (OpenSpec.upto fnExactCountAutomorphismsSpec)

/-- 'laws.FnExactLeastCode', WHERE WHAT IT READS IS OF BULK AT MOST 1048576: true; the input reads as it did. -/
def fnExactLeastCodeUptoRow : OpenClaim := { program := "ytolipjemabmlkaa", sum := "cad22ae38ef74f13b95930af750126db79635ffc8aa7ff017ee8ba32322ab6a8", func := "loop.example/g01298/laws.FnExactLeastCode", spec := "fnExactLeastCode", unfollowed := true, recurses := true, plainKeys := false, apart := false, narrowed := true }
def FnExactLeastCodeUptoSaid : Prop := fnExactLeastCodeUptoRow.holds Try.pinned (OpenSpec.upto fnExactLeastCodeSpec)

end Rows
end Go.Proofs.Ytolipjemabmlkaa
