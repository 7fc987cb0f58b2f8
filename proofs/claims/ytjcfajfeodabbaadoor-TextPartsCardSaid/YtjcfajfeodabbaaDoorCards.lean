/-
  DERIVED. GIVEN WITH THE SEED: THE CARDS: each row of YtjcfajfeodabbaaDoorRows.lean that lists a variable, with what it lists TIED to the program's text (the seventh form; the later family's looks); each row that meets fmt, with fmt's text TOLD by the authors' own Lean function (tested against real Go, not proved from fmt's source: count such statements apart). THE CARD IS WHAT COUNTS. Prove the row's statement (the work); the ties are given (YtjcfajfeodabbaaDoorTie.lean); close each card by the builder's one call (the guide's Derived/Test/ToyasCard.lean, 'card_holds'). Laid BY PROGRAM, IN A SANDBOX (cutbox-door.mjs). By AI agents, Wed Nov 11 2026. No macro, syntax, notation, axiom, sorry.
-/
import Derived.Test.YtjcfajfeodabbaaDoorRows
import GoSem.ClaimSeven
namespace Go.Proofs.YtjcfajfeodabbaaDoor
namespace Rows

/-- THE TIED CARD OF 'provostlaw03.TextIs'. -/
def textIsCard : Claim7 := { stood := { row := textIsRow, standIns := [], harness := (true, "2f541b5ed26257a4f45c0c1e73226ad47097f9b24b2c04d21fe86b9a79347b27"), looks := false }, kinds := [], alts := [], laidByText := true, laidKinds := [.data, .data, .pinned], laidTests := true, laidLooks := .later }
def TextIsCardSaid : Prop := Claim7.holds Tryd.pinned (.plain (OpenSpec.ofChange textIsSpec)) textIsCard

/-- THE TIED CARD OF 'provostlaw03.TextSplits'. -/
def textSplitsCard : Claim7 := { stood := { row := textSplitsRow, standIns := [], harness := (true, "2f541b5ed26257a4f45c0c1e73226ad47097f9b24b2c04d21fe86b9a79347b27"), looks := false }, kinds := [], alts := [], laidByText := true, laidKinds := [.data, .data, .pinned], laidTests := true, laidLooks := .later }
def TextSplitsCardSaid : Prop := Claim7.holds Tryd.pinned (.plain (OpenSpec.ofChange textSplitsSpec)) textSplitsCard

/-- THE TIED CARD OF 'provostlaw03.TextParts'. -/
def textPartsCard : Claim7 := { stood := { row := textPartsRow, standIns := [], harness := (true, "2f541b5ed26257a4f45c0c1e73226ad47097f9b24b2c04d21fe86b9a79347b27"), looks := false }, kinds := [], alts := [], laidByText := true, laidKinds := [.data, .data, .pinned], laidTests := true, laidLooks := .later }
def TextPartsCardSaid : Prop := Claim7.holds Tryd.pinned (.plain (OpenSpec.ofChange textPartsSpec)) textPartsCard

/-- THE TIED CARD OF 'provostlaw03.TextNames'. -/
def textNamesCard : Claim7 := { stood := { row := textNamesRow, standIns := [], harness := (true, "2f541b5ed26257a4f45c0c1e73226ad47097f9b24b2c04d21fe86b9a79347b27"), looks := false }, kinds := [], alts := [], laidByText := true, laidKinds := [.data, .data, .pinned], laidTests := true, laidLooks := .later }
def TextNamesCardSaid : Prop := Claim7.holds Tryd.pinned (.plain (OpenSpec.ofChange textNamesSpec)) textNamesCard

/-- THE SECOND FORM's CARD OF 'provostlaw03.TextIs'. -/
def textIsUptoCard : Claim7 := { stood := { row := textIsUptoRow, standIns := [], harness := (true, "2f541b5ed26257a4f45c0c1e73226ad47097f9b24b2c04d21fe86b9a79347b27"), looks := false }, kinds := [], alts := [], laidByText := true, laidKinds := [.data, .data, .pinned], laidTests := true, laidLooks := .later }
def TextIsUptoCardSaid : Prop := Claim7.holds Tryd.pinned (.plain (OpenSpec.upto textIsSpec)) textIsUptoCard

/-- THE SECOND FORM's CARD OF 'provostlaw03.TextSplits'. -/
def textSplitsUptoCard : Claim7 := { stood := { row := textSplitsUptoRow, standIns := [], harness := (true, "2f541b5ed26257a4f45c0c1e73226ad47097f9b24b2c04d21fe86b9a79347b27"), looks := false }, kinds := [], alts := [], laidByText := true, laidKinds := [.data, .data, .pinned], laidTests := true, laidLooks := .later }
def TextSplitsUptoCardSaid : Prop := Claim7.holds Tryd.pinned (.plain (OpenSpec.upto textSplitsSpec)) textSplitsUptoCard

/-- THE SECOND FORM's CARD OF 'provostlaw03.TextParts'. -/
def textPartsUptoCard : Claim7 := { stood := { row := textPartsUptoRow, standIns := [], harness := (true, "2f541b5ed26257a4f45c0c1e73226ad47097f9b24b2c04d21fe86b9a79347b27"), looks := false }, kinds := [], alts := [], laidByText := true, laidKinds := [.data, .data, .pinned], laidTests := true, laidLooks := .later }
def TextPartsUptoCardSaid : Prop := Claim7.holds Tryd.pinned (.plain (OpenSpec.upto textPartsSpec)) textPartsUptoCard

/-- THE SECOND FORM's CARD OF 'provostlaw03.TextNames'. -/
def textNamesUptoCard : Claim7 := { stood := { row := textNamesUptoRow, standIns := [], harness := (true, "2f541b5ed26257a4f45c0c1e73226ad47097f9b24b2c04d21fe86b9a79347b27"), looks := false }, kinds := [], alts := [], laidByText := true, laidKinds := [.data, .data, .pinned], laidTests := true, laidLooks := .later }
def TextNamesUptoCardSaid : Prop := Claim7.holds Tryd.pinned (.plain (OpenSpec.upto textNamesSpec)) textNamesUptoCard
end Rows
end Go.Proofs.YtjcfajfeodabbaaDoor
