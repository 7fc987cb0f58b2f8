/-
  DERIVED. GIVEN WITH THE SEED: THE CARDS: each row of YtaegknpijgjioaaGreatDoorRows.lean that lists a variable, with what it lists TIED to the program's text (the seventh form; the later family's looks); each row that meets fmt, with fmt's text TOLD by the authors' own Lean function (tested against real Go, not proved from fmt's source: count such statements apart). THE CARD IS WHAT COUNTS. Prove the row's statement (the work); the ties are given (YtaegknpijgjioaaGreatDoorTie.lean); close each card by the builder's one call (the guide's Derived/Test/ToyasCard.lean, 'card_holds'). Laid BY PROGRAM, IN A SANDBOX (cutbox-door.mjs). By AI agents, Wed Nov 11 2026. No macro, syntax, notation, axiom, sorry.
-/
import Derived.Test.YtaegknpijgjioaaGreatDoorRows
import GoSem.ClaimSeven
namespace Go.Proofs.YtaegknpijgjioaaGreatDoor
namespace Rows

/-- THE TIED CARD OF 'provostlaw11.SelFilters'. -/
def selFiltersCard : Claim7 := { stood := { row := selFiltersRow, standIns := [], harness := (true, "8ba1a7c9eb4a25c5b6cb010a63f2238ec61dceb630b889d82d3f90ae3a41207b"), looks := true }, kinds := [], alts := [], laidByText := true, laidKinds := [.data, .data, .data, .handle, .data], laidTests := true, laidLooks := .later }
def SelFiltersCardSaid : Prop := Claim7.holds Tryz.pinned (.plain (OpenSpec.ofChange selFiltersSpec)) selFiltersCard

/-- THE TIED CARD OF 'provostlaw11.SelMerges'. -/
def selMergesCard : Claim7 := { stood := { row := selMergesRow, standIns := [], harness := (true, "8ba1a7c9eb4a25c5b6cb010a63f2238ec61dceb630b889d82d3f90ae3a41207b"), looks := true }, kinds := [], alts := [], laidByText := true, laidKinds := [.data, .data, .data, .handle, .data], laidTests := true, laidLooks := .later }
def SelMergesCardSaid : Prop := Claim7.holds Tryz.pinned (.plain (OpenSpec.ofChange selMergesSpec)) selMergesCard

/-- THE TIED CARD OF 'provostlaw11.SelTexts'. -/
def selTextsCard : Claim7 := { stood := { row := selTextsRow, standIns := [], harness := (true, "8ba1a7c9eb4a25c5b6cb010a63f2238ec61dceb630b889d82d3f90ae3a41207b"), looks := true }, kinds := [], alts := [], laidByText := true, laidKinds := [.data, .data, .data, .handle, .data], laidTests := true, laidLooks := .later }
def SelTextsCardSaid : Prop := Claim7.holds Tryz.pinned (.plain (OpenSpec.ofChange selTextsSpec)) selTextsCard

/-- THE TIED CARD OF 'provostlaw11.SelBoth'. -/
def selBothCard : Claim7 := { stood := { row := selBothRow, standIns := [], harness := (true, "8ba1a7c9eb4a25c5b6cb010a63f2238ec61dceb630b889d82d3f90ae3a41207b"), looks := true }, kinds := [], alts := [], laidByText := true, laidKinds := [.data, .data, .data, .handle, .data], laidTests := true, laidLooks := .later }
def SelBothCardSaid : Prop := Claim7.holds Tryz.pinned (.plain (OpenSpec.ofChange selBothSpec)) selBothCard

/-- THE SECOND FORM's CARD OF 'provostlaw11.SelFilters'. -/
def selFiltersUptoCard : Claim7 := { stood := { row := selFiltersUptoRow, standIns := [], harness := (true, "8ba1a7c9eb4a25c5b6cb010a63f2238ec61dceb630b889d82d3f90ae3a41207b"), looks := true }, kinds := [], alts := [], laidByText := true, laidKinds := [.data, .data, .data, .handle, .data], laidTests := true, laidLooks := .later }
def SelFiltersUptoCardSaid : Prop := Claim7.holds Tryz.pinned (.plain (OpenSpec.upto selFiltersSpec)) selFiltersUptoCard

/-- THE SECOND FORM's CARD OF 'provostlaw11.SelMerges'. -/
def selMergesUptoCard : Claim7 := { stood := { row := selMergesUptoRow, standIns := [], harness := (true, "8ba1a7c9eb4a25c5b6cb010a63f2238ec61dceb630b889d82d3f90ae3a41207b"), looks := true }, kinds := [], alts := [], laidByText := true, laidKinds := [.data, .data, .data, .handle, .data], laidTests := true, laidLooks := .later }
def SelMergesUptoCardSaid : Prop := Claim7.holds Tryz.pinned (.plain (OpenSpec.upto selMergesSpec)) selMergesUptoCard

/-- THE SECOND FORM's CARD OF 'provostlaw11.SelTexts'. -/
def selTextsUptoCard : Claim7 := { stood := { row := selTextsUptoRow, standIns := [], harness := (true, "8ba1a7c9eb4a25c5b6cb010a63f2238ec61dceb630b889d82d3f90ae3a41207b"), looks := true }, kinds := [], alts := [], laidByText := true, laidKinds := [.data, .data, .data, .handle, .data], laidTests := true, laidLooks := .later }
def SelTextsUptoCardSaid : Prop := Claim7.holds Tryz.pinned (.plain (OpenSpec.upto selTextsSpec)) selTextsUptoCard

/-- THE SECOND FORM's CARD OF 'provostlaw11.SelBoth'. -/
def selBothUptoCard : Claim7 := { stood := { row := selBothUptoRow, standIns := [], harness := (true, "8ba1a7c9eb4a25c5b6cb010a63f2238ec61dceb630b889d82d3f90ae3a41207b"), looks := true }, kinds := [], alts := [], laidByText := true, laidKinds := [.data, .data, .data, .handle, .data], laidTests := true, laidLooks := .later }
def SelBothUptoCardSaid : Prop := Claim7.holds Tryz.pinned (.plain (OpenSpec.upto selBothSpec)) selBothUptoCard
end Rows
end Go.Proofs.YtaegknpijgjioaaGreatDoor
