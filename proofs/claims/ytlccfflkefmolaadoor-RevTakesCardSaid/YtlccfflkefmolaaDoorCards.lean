/-
  DERIVED. GIVEN WITH THE SEED: THE CARDS: each row of YtlccfflkefmolaaDoorRows.lean that lists a variable, with what it lists TIED to the program's text (the seventh form; the later family's looks); each row that meets fmt, with fmt's text TOLD by the authors' own Lean function (tested against real Go, not proved from fmt's source: count such statements apart). THE CARD IS WHAT COUNTS. Prove the row's statement (the work); the ties are given (YtlccfflkefmolaaDoorTie.lean); close each card by the builder's one call (the guide's Derived/Test/ToyasCard.lean, 'card_holds'). Laid BY PROGRAM, IN A SANDBOX (cutbox-door.mjs). By AI agents, Wed Nov 11 2026. No macro, syntax, notation, axiom, sorry.
-/
import Derived.Test.YtlccfflkefmolaaDoorRows
import GoSem.ClaimSeven
namespace Go.Proofs.YtlccfflkefmolaaDoor
namespace Rows

/-- THE TIED CARD OF 'provostlaw10.RevTakes'. -/
def revTakesCard : Claim7 := { stood := { row := revTakesRow, standIns := [], harness := (true, "03f7d1580d3afeb687b2fb3433e007c2c48b6cadd5c035cf532c9c2ffc5f80a9"), looks := true }, kinds := [], alts := [], laidByText := true, laidKinds := [.data, .data, .data], laidTests := true, laidLooks := .later }
def RevTakesCardSaid : Prop := Claim7.holds Tryd.pinned (.plain (OpenSpec.ofChange revTakesSpec)) revTakesCard

/-- THE TIED CARD OF 'provostlaw10.RevTexts'. -/
def revTextsCard : Claim7 := { stood := { row := revTextsRow, standIns := [], harness := (true, "03f7d1580d3afeb687b2fb3433e007c2c48b6cadd5c035cf532c9c2ffc5f80a9"), looks := true }, kinds := [], alts := [], laidByText := true, laidKinds := [.data, .data, .data, .sentinel, .sentinel], laidTests := true, laidLooks := .later }
def RevTextsCardSaid : Prop := Claim7.holds Tryd.pinned (.plain (OpenSpec.ofChange revTextsSpec)) revTextsCard

/-- THE TIED CARD OF 'provostlaw10.RevRises'. -/
def revRisesCard : Claim7 := { stood := { row := revRisesRow, standIns := [], harness := (true, "03f7d1580d3afeb687b2fb3433e007c2c48b6cadd5c035cf532c9c2ffc5f80a9"), looks := true }, kinds := [], alts := [], laidByText := true, laidKinds := [.data, .data, .data], laidTests := true, laidLooks := .later }
def RevRisesCardSaid : Prop := Claim7.holds Tryd.pinned (.plain (OpenSpec.ofChange revRisesSpec)) revRisesCard

/-- THE SECOND FORM's CARD OF 'provostlaw10.RevTakes'. -/
def revTakesUptoCard : Claim7 := { stood := { row := revTakesUptoRow, standIns := [], harness := (true, "03f7d1580d3afeb687b2fb3433e007c2c48b6cadd5c035cf532c9c2ffc5f80a9"), looks := true }, kinds := [], alts := [], laidByText := true, laidKinds := [.data, .data, .data], laidTests := true, laidLooks := .later }
def RevTakesUptoCardSaid : Prop := Claim7.holds Tryd.pinned (.plain (OpenSpec.upto revTakesSpec)) revTakesUptoCard

/-- THE SECOND FORM's CARD OF 'provostlaw10.RevTexts'. -/
def revTextsUptoCard : Claim7 := { stood := { row := revTextsUptoRow, standIns := [], harness := (true, "03f7d1580d3afeb687b2fb3433e007c2c48b6cadd5c035cf532c9c2ffc5f80a9"), looks := true }, kinds := [], alts := [], laidByText := true, laidKinds := [.data, .data, .data, .sentinel, .sentinel], laidTests := true, laidLooks := .later }
def RevTextsUptoCardSaid : Prop := Claim7.holds Tryd.pinned (.plain (OpenSpec.upto revTextsSpec)) revTextsUptoCard

/-- THE SECOND FORM's CARD OF 'provostlaw10.RevRises'. -/
def revRisesUptoCard : Claim7 := { stood := { row := revRisesUptoRow, standIns := [], harness := (true, "03f7d1580d3afeb687b2fb3433e007c2c48b6cadd5c035cf532c9c2ffc5f80a9"), looks := true }, kinds := [], alts := [], laidByText := true, laidKinds := [.data, .data, .data], laidTests := true, laidLooks := .later }
def RevRisesUptoCardSaid : Prop := Claim7.holds Tryd.pinned (.plain (OpenSpec.upto revRisesSpec)) revRisesUptoCard
end Rows
end Go.Proofs.YtlccfflkefmolaaDoor
