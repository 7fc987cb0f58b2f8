/-
  DERIVED. GIVEN WITH THE SEED: THE CARDS: each row of YtaegknpijgjioaaDoorRows.lean that lists a variable, with what it lists TIED to the program's text (the seventh form; the later family's looks); each row that meets fmt, with fmt's text TOLD by the authors' own Lean function (tested against real Go, not proved from fmt's source: count such statements apart). THE CARD IS WHAT COUNTS. Prove the row's statement (the work); the ties are given (YtaegknpijgjioaaDoorTie.lean); close each card by the builder's one call (the guide's Derived/Test/ToyasCard.lean, 'card_holds'). Laid BY PROGRAM, IN A SANDBOX (cutbox-door.mjs). By AI agents, Wed Nov 11 2026. No macro, syntax, notation, axiom, sorry.
-/
import Derived.Test.YtaegknpijgjioaaDoorRows
import GoSem.ClaimSeven
namespace Go.Proofs.YtaegknpijgjioaaDoor
namespace Rows

/-- THE TIED CARD OF 'provostlaw11.SelFits'. -/
def selFitsCard : Claim7 := { stood := { row := selFitsRow, standIns := [], harness := (true, "9cc1d3003baa2e100245a4cee0c4376ec75bbabe0e2ac987e3dfa00cdc32a168"), looks := true }, kinds := [], alts := [], laidByText := true, laidKinds := [.data, .data, .data, .handle, .data], laidTests := true, laidLooks := .later }
def SelFitsCardSaid : Prop := Claim7.holds Tryd.pinned (.plain (OpenSpec.ofChange selFitsSpec)) selFitsCard

/-- THE TIED CARD OF 'provostlaw11.SelBack'. -/
def selBackCard : Claim7 := { stood := { row := selBackRow, standIns := [], harness := (true, "9cc1d3003baa2e100245a4cee0c4376ec75bbabe0e2ac987e3dfa00cdc32a168"), looks := true }, kinds := [], alts := [], laidByText := true, laidKinds := [.data, .data, .data, .handle, .data], laidTests := true, laidLooks := .later }
def SelBackCardSaid : Prop := Claim7.holds Tryd.pinned (.plain (OpenSpec.ofChange selBackSpec)) selBackCard

/-- THE SECOND FORM's CARD OF 'provostlaw11.SelFits'. -/
def selFitsUptoCard : Claim7 := { stood := { row := selFitsUptoRow, standIns := [], harness := (true, "9cc1d3003baa2e100245a4cee0c4376ec75bbabe0e2ac987e3dfa00cdc32a168"), looks := true }, kinds := [], alts := [], laidByText := true, laidKinds := [.data, .data, .data, .handle, .data], laidTests := true, laidLooks := .later }
def SelFitsUptoCardSaid : Prop := Claim7.holds Tryd.pinned (.plain (OpenSpec.upto selFitsSpec)) selFitsUptoCard

/-- THE SECOND FORM's CARD OF 'provostlaw11.SelBack'. -/
def selBackUptoCard : Claim7 := { stood := { row := selBackUptoRow, standIns := [], harness := (true, "9cc1d3003baa2e100245a4cee0c4376ec75bbabe0e2ac987e3dfa00cdc32a168"), looks := true }, kinds := [], alts := [], laidByText := true, laidKinds := [.data, .data, .data, .handle, .data], laidTests := true, laidLooks := .later }
def SelBackUptoCardSaid : Prop := Claim7.holds Tryd.pinned (.plain (OpenSpec.upto selBackSpec)) selBackUptoCard
end Rows
end Go.Proofs.YtaegknpijgjioaaDoor
