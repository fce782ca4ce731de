/-
  DERIVED. GIVEN WITH THE SEED: THE CARDS: each row of YtnblhkhdilkbeaaDoorRows.lean that lists a variable, with what it lists TIED to the program's text (the seventh form; the later family's looks); each row that meets fmt, with fmt's text TOLD by the authors' own Lean function (tested against real Go, not proved from fmt's source: count such statements apart). THE CARD IS WHAT COUNTS. Prove the row's statement (the work); the ties are given (YtnblhkhdilkbeaaDoorTie.lean); close each card by the builder's one call (the guide's Derived/Test/ToyasCard.lean, 'card_holds'). Laid BY PROGRAM, IN A SANDBOX (cutbox-door.mjs). By AI agents, Wed Nov 11 2026. No macro, syntax, notation, axiom, sorry.
-/
import Derived.Test.YtnblhkhdilkbeaaDoorRows
import GoSem.ClaimSeven
namespace Go.Proofs.YtnblhkhdilkbeaaDoor
namespace Rows

/-- THE TIED CARD OF 'laws.FnExactNewDesk'. -/
def fnExactNewDeskCard : Claim7 := { stood := { row := fnExactNewDeskRow, standIns := [], harness := (true, "450085890334e1540906e34d31a7231a260b20f1ae71f21da15f7f1db42c0029"), looks := true }, kinds := [], alts := [], laidByText := true, laidKinds := [.data, .data, .data, .data, .sentinel, .sentinel, .pinned], laidTests := true, laidLooks := .later }
def FnExactNewDeskCardSaid : Prop := Claim7.holds Tryd.pinned (.plain (OpenSpec.ofChange fnExactNewDeskSpec)) fnExactNewDeskCard

/-- THE TIED CARD OF 'laws.FnExactFindIsomorphism'. -/
def fnExactFindIsomorphismCard : Claim7 := { stood := { row := fnExactFindIsomorphismRow, standIns := [], harness := (true, "450085890334e1540906e34d31a7231a260b20f1ae71f21da15f7f1db42c0029"), looks := true }, kinds := [], alts := [], laidByText := true, laidKinds := [.sentinel], laidTests := true, laidLooks := .later }
def FnExactFindIsomorphismCardSaid : Prop := Claim7.holds Tryd.pinned (.plain (OpenSpec.ofChange fnExactFindIsomorphismSpec)) fnExactFindIsomorphismCard

/-- THE TIED CARD OF 'laws.FnExactAreIsomorphic'. -/
def fnExactAreIsomorphicCard : Claim7 := { stood := { row := fnExactAreIsomorphicRow, standIns := [], harness := (true, "450085890334e1540906e34d31a7231a260b20f1ae71f21da15f7f1db42c0029"), looks := true }, kinds := [], alts := [], laidByText := true, laidKinds := [.sentinel], laidTests := true, laidLooks := .later }
def FnExactAreIsomorphicCardSaid : Prop := Claim7.holds Tryd.pinned (.plain (OpenSpec.ofChange fnExactAreIsomorphicSpec)) fnExactAreIsomorphicCard

/-- THE TIED CARD OF 'laws.FnExactRegularDegree'. -/
def fnExactRegularDegreeCard : Claim7 := { stood := { row := fnExactRegularDegreeRow, standIns := [], harness := (true, "450085890334e1540906e34d31a7231a260b20f1ae71f21da15f7f1db42c0029"), looks := true }, kinds := [], alts := [], laidByText := true, laidKinds := [.sentinel], laidTests := true, laidLooks := .later }
def FnExactRegularDegreeCardSaid : Prop := Claim7.holds Tryd.pinned (.plain (OpenSpec.ofChange fnExactRegularDegreeSpec)) fnExactRegularDegreeCard

/-- THE SECOND FORM's CARD OF 'laws.FnExactNewDesk'. -/
def fnExactNewDeskUptoCard : Claim7 := { stood := { row := fnExactNewDeskUptoRow, standIns := [], harness := (true, "450085890334e1540906e34d31a7231a260b20f1ae71f21da15f7f1db42c0029"), looks := true }, kinds := [], alts := [], laidByText := true, laidKinds := [.data, .data, .data, .data, .sentinel, .sentinel, .pinned], laidTests := true, laidLooks := .later }
def FnExactNewDeskUptoCardSaid : Prop := Claim7.holds Tryd.pinned (.plain (OpenSpec.upto fnExactNewDeskSpec)) fnExactNewDeskUptoCard

/-- THE SECOND FORM's CARD OF 'laws.FnExactFindIsomorphism'. -/
def fnExactFindIsomorphismUptoCard : Claim7 := { stood := { row := fnExactFindIsomorphismUptoRow, standIns := [], harness := (true, "450085890334e1540906e34d31a7231a260b20f1ae71f21da15f7f1db42c0029"), looks := true }, kinds := [], alts := [], laidByText := true, laidKinds := [.sentinel], laidTests := true, laidLooks := .later }
def FnExactFindIsomorphismUptoCardSaid : Prop := Claim7.holds Tryd.pinned (.plain (OpenSpec.upto fnExactFindIsomorphismSpec)) fnExactFindIsomorphismUptoCard

/-- THE SECOND FORM's CARD OF 'laws.FnExactAreIsomorphic'. -/
def fnExactAreIsomorphicUptoCard : Claim7 := { stood := { row := fnExactAreIsomorphicUptoRow, standIns := [], harness := (true, "450085890334e1540906e34d31a7231a260b20f1ae71f21da15f7f1db42c0029"), looks := true }, kinds := [], alts := [], laidByText := true, laidKinds := [.sentinel], laidTests := true, laidLooks := .later }
def FnExactAreIsomorphicUptoCardSaid : Prop := Claim7.holds Tryd.pinned (.plain (OpenSpec.upto fnExactAreIsomorphicSpec)) fnExactAreIsomorphicUptoCard

/-- THE SECOND FORM's CARD OF 'laws.FnExactRegularDegree'. -/
def fnExactRegularDegreeUptoCard : Claim7 := { stood := { row := fnExactRegularDegreeUptoRow, standIns := [], harness := (true, "450085890334e1540906e34d31a7231a260b20f1ae71f21da15f7f1db42c0029"), looks := true }, kinds := [], alts := [], laidByText := true, laidKinds := [.sentinel], laidTests := true, laidLooks := .later }
def FnExactRegularDegreeUptoCardSaid : Prop := Claim7.holds Tryd.pinned (.plain (OpenSpec.upto fnExactRegularDegreeSpec)) fnExactRegularDegreeUptoCard
end Rows
end Go.Proofs.YtnblhkhdilkbeaaDoor
