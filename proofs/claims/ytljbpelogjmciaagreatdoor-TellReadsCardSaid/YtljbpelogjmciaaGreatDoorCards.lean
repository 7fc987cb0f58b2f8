/-
  DERIVED. GIVEN WITH THE SEED: THE CARDS: each row of YtljbpelogjmciaaGreatDoorRows.lean that lists a variable, with what it lists TIED to the program's text (the seventh form; the later family's looks); each row that meets fmt, with fmt's text TOLD by the authors' own Lean function (tested against real Go, not proved from fmt's source: count such statements apart). THE CARD IS WHAT COUNTS. Prove the row's statement (the work); the ties are given (YtljbpelogjmciaaGreatDoorTie.lean); close each card by the builder's one call (the guide's Derived/Test/ToyasCard.lean, 'card_holds'). Laid BY PROGRAM, IN A SANDBOX (cutbox-door.mjs). By AI agents, Wed Nov 11 2026. No macro, syntax, notation, axiom, sorry.
-/
import Derived.Test.YtljbpelogjmciaaGreatDoorRows
import GoSem.ClaimSeven
namespace Go.Proofs.YtljbpelogjmciaaGreatDoor
namespace Rows

/-- THE TIED CARD OF 'provostlaw07.PackRaws'. -/
def packRawsCard : Claim7 := { stood := { row := packRawsRow, standIns := [], harness := (true, "1c72154238ea1fd6f6017a3e8b00a7780077ba88e9ec6f56d19f6927ce2c3ed0"), looks := true }, kinds := [], alts := [], laidByText := true, laidKinds := [.data, .data, .data, .data, .handle, .data, .pinned], laidTests := true, laidLooks := .later }
def PackRawsCardSaid : Prop := Claim7.holds Tryz.pinned (.plain (OpenSpec.ofChange packRawsSpec)) packRawsCard

/-- THE TIED CARD OF 'provostlaw09.TellChecks'. -/
def tellChecksCard : Claim7 := { stood := { row := tellChecksRow, standIns := [], harness := (true, "1c72154238ea1fd6f6017a3e8b00a7780077ba88e9ec6f56d19f6927ce2c3ed0"), looks := true }, kinds := [], alts := [], laidByText := true, laidKinds := [.data, .data, .data, .data, .handle, .data, .data, .pinned], laidTests := true, laidLooks := .later }
def TellChecksCardSaid : Prop := Claim7.holds Tryz.pinned (.plain (OpenSpec.ofChange tellChecksSpec)) tellChecksCard

/-- THE TIED CARD OF 'provostlaw09.TellBytes'. -/
def tellBytesCard : Claim7 := { stood := { row := tellBytesRow, standIns := [], harness := (true, "1c72154238ea1fd6f6017a3e8b00a7780077ba88e9ec6f56d19f6927ce2c3ed0"), looks := true }, kinds := [], alts := [], laidByText := true, laidKinds := [.data, .data, .data, .data, .handle, .data, .data, .pinned], laidTests := true, laidLooks := .later }
def TellBytesCardSaid : Prop := Claim7.holds Tryz.pinned (.plain (OpenSpec.ofChange tellBytesSpec)) tellBytesCard

/-- THE TIED CARD OF 'provostlaw09.TellReads'. -/
def tellReadsCard : Claim7 := { stood := { row := tellReadsRow, standIns := [], harness := (true, "1c72154238ea1fd6f6017a3e8b00a7780077ba88e9ec6f56d19f6927ce2c3ed0"), looks := true }, kinds := [], alts := [], laidByText := true, laidKinds := [.data, .data, .data, .data, .handle, .data, .data, .pinned], laidTests := true, laidLooks := .later }
def TellReadsCardSaid : Prop := Claim7.holds Tryz.pinned (.plain (OpenSpec.ofChange tellReadsSpec)) tellReadsCard

/-- THE TIED CARD OF 'provostlaw09.TellBack'. -/
def tellBackCard : Claim7 := { stood := { row := tellBackRow, standIns := [], harness := (true, "1c72154238ea1fd6f6017a3e8b00a7780077ba88e9ec6f56d19f6927ce2c3ed0"), looks := true }, kinds := [], alts := [], laidByText := true, laidKinds := [.data, .data, .data, .data, .handle, .data, .data, .pinned], laidTests := true, laidLooks := .later }
def TellBackCardSaid : Prop := Claim7.holds Tryz.pinned (.plain (OpenSpec.ofChange tellBackSpec)) tellBackCard

/-- THE SECOND FORM's CARD OF 'provostlaw07.PackRaws'. -/
def packRawsUptoCard : Claim7 := { stood := { row := packRawsUptoRow, standIns := [], harness := (true, "1c72154238ea1fd6f6017a3e8b00a7780077ba88e9ec6f56d19f6927ce2c3ed0"), looks := true }, kinds := [], alts := [], laidByText := true, laidKinds := [.data, .data, .data, .data, .handle, .data, .pinned], laidTests := true, laidLooks := .later }
def PackRawsUptoCardSaid : Prop := Claim7.holds Tryz.pinned (.plain (OpenSpec.upto packRawsSpec)) packRawsUptoCard

/-- THE SECOND FORM's CARD OF 'provostlaw09.TellChecks'. -/
def tellChecksUptoCard : Claim7 := { stood := { row := tellChecksUptoRow, standIns := [], harness := (true, "1c72154238ea1fd6f6017a3e8b00a7780077ba88e9ec6f56d19f6927ce2c3ed0"), looks := true }, kinds := [], alts := [], laidByText := true, laidKinds := [.data, .data, .data, .data, .handle, .data, .data, .pinned], laidTests := true, laidLooks := .later }
def TellChecksUptoCardSaid : Prop := Claim7.holds Tryz.pinned (.plain (OpenSpec.upto tellChecksSpec)) tellChecksUptoCard

/-- THE SECOND FORM's CARD OF 'provostlaw09.TellBytes'. -/
def tellBytesUptoCard : Claim7 := { stood := { row := tellBytesUptoRow, standIns := [], harness := (true, "1c72154238ea1fd6f6017a3e8b00a7780077ba88e9ec6f56d19f6927ce2c3ed0"), looks := true }, kinds := [], alts := [], laidByText := true, laidKinds := [.data, .data, .data, .data, .handle, .data, .data, .pinned], laidTests := true, laidLooks := .later }
def TellBytesUptoCardSaid : Prop := Claim7.holds Tryz.pinned (.plain (OpenSpec.upto tellBytesSpec)) tellBytesUptoCard

/-- THE SECOND FORM's CARD OF 'provostlaw09.TellReads'. -/
def tellReadsUptoCard : Claim7 := { stood := { row := tellReadsUptoRow, standIns := [], harness := (true, "1c72154238ea1fd6f6017a3e8b00a7780077ba88e9ec6f56d19f6927ce2c3ed0"), looks := true }, kinds := [], alts := [], laidByText := true, laidKinds := [.data, .data, .data, .data, .handle, .data, .data, .pinned], laidTests := true, laidLooks := .later }
def TellReadsUptoCardSaid : Prop := Claim7.holds Tryz.pinned (.plain (OpenSpec.upto tellReadsSpec)) tellReadsUptoCard

/-- THE SECOND FORM's CARD OF 'provostlaw09.TellBack'. -/
def tellBackUptoCard : Claim7 := { stood := { row := tellBackUptoRow, standIns := [], harness := (true, "1c72154238ea1fd6f6017a3e8b00a7780077ba88e9ec6f56d19f6927ce2c3ed0"), looks := true }, kinds := [], alts := [], laidByText := true, laidKinds := [.data, .data, .data, .data, .handle, .data, .data, .pinned], laidTests := true, laidLooks := .later }
def TellBackUptoCardSaid : Prop := Claim7.holds Tryz.pinned (.plain (OpenSpec.upto tellBackSpec)) tellBackUptoCard
end Rows
end Go.Proofs.YtljbpelogjmciaaGreatDoor
