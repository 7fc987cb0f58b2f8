/-
  DERIVED. GIVEN WITH THE SEED: THE CARDS: each row of YtmeilidjomjocaaGreatDoorRows.lean that lists a variable, with what it lists TIED to the program's text (the seventh form; the later family's looks); each row that meets fmt, with fmt's text TOLD by the authors' own Lean function (tested against real Go, not proved from fmt's source: count such statements apart). THE CARD IS WHAT COUNTS. Prove the row's statement (the work); the ties are given (YtmeilidjomjocaaGreatDoorTie.lean); close each card by the builder's one call (the guide's Derived/Test/ToyasCard.lean, 'card_holds'). Laid BY PROGRAM, IN A SANDBOX (cutbox-door.mjs). By AI agents, Wed Nov 11 2026. No macro, syntax, notation, axiom, sorry.
-/
import Derived.Test.YtmeilidjomjocaaGreatDoorRows
import GoSem.ClaimSeven
namespace Go.Proofs.YtmeilidjomjocaaGreatDoor
namespace Rows

/-- THE TIED CARD OF 'provostlaw07.PackRaws'. -/
def packRawsCard : Claim7 := { stood := { row := packRawsRow, standIns := [], harness := (true, "042fead801131a7aabee669ec2210fbb2449b6433e4d7fd0aaec350937db92f0"), looks := true }, kinds := [], alts := [], laidByText := true, laidKinds := [.data, .data, .data, .data, .handle, .data, .pinned], laidTests := true, laidLooks := .later }
def PackRawsCardSaid : Prop := Claim7.holds Tryz.pinned (.plain (OpenSpec.ofChange packRawsSpec)) packRawsCard

/-- THE TIED CARD OF 'provostlaw07.PackReads'. -/
def packReadsCard : Claim7 := { stood := { row := packReadsRow, standIns := [], harness := (true, "042fead801131a7aabee669ec2210fbb2449b6433e4d7fd0aaec350937db92f0"), looks := true }, kinds := [], alts := [], laidByText := true, laidKinds := [.data, .data, .data, .data, .handle, .data, .pinned], laidTests := true, laidLooks := .later }
def PackReadsCardSaid : Prop := Claim7.holds Tryz.pinned (.plain (OpenSpec.ofChange packReadsSpec)) packReadsCard

/-- THE TIED CARD OF 'provostlaw08.AskChecks'. -/
def askChecksCard : Claim7 := { stood := { row := askChecksRow, standIns := [], harness := (true, "042fead801131a7aabee669ec2210fbb2449b6433e4d7fd0aaec350937db92f0"), looks := true }, kinds := [], alts := [], laidByText := true, laidKinds := [.data, .data, .data, .data, .handle, .data, .data, .pinned], laidTests := true, laidLooks := .later }
def AskChecksCardSaid : Prop := Claim7.holds Tryz.pinned (.plain (OpenSpec.ofChange askChecksSpec)) askChecksCard

/-- THE TIED CARD OF 'provostlaw08.AskNames'. -/
def askNamesCard : Claim7 := { stood := { row := askNamesRow, standIns := [], harness := (true, "042fead801131a7aabee669ec2210fbb2449b6433e4d7fd0aaec350937db92f0"), looks := true }, kinds := [], alts := [], laidByText := true, laidKinds := [.data, .data, .data, .data, .handle, .data, .data, .pinned], laidTests := true, laidLooks := .later }
def AskNamesCardSaid : Prop := Claim7.holds Tryz.pinned (.plain (OpenSpec.ofChange askNamesSpec)) askNamesCard

/-- THE TIED CARD OF 'provostlaw08.AskBytes'. -/
def askBytesCard : Claim7 := { stood := { row := askBytesRow, standIns := [], harness := (true, "042fead801131a7aabee669ec2210fbb2449b6433e4d7fd0aaec350937db92f0"), looks := true }, kinds := [], alts := [], laidByText := true, laidKinds := [.data, .data, .data, .data, .handle, .data, .data, .pinned], laidTests := true, laidLooks := .later }
def AskBytesCardSaid : Prop := Claim7.holds Tryz.pinned (.plain (OpenSpec.ofChange askBytesSpec)) askBytesCard

/-- THE TIED CARD OF 'provostlaw08.AskBack'. -/
def askBackCard : Claim7 := { stood := { row := askBackRow, standIns := [], harness := (true, "042fead801131a7aabee669ec2210fbb2449b6433e4d7fd0aaec350937db92f0"), looks := true }, kinds := [], alts := [], laidByText := true, laidKinds := [.data, .data, .data, .data, .handle, .data, .data, .pinned], laidTests := true, laidLooks := .later }
def AskBackCardSaid : Prop := Claim7.holds Tryz.pinned (.plain (OpenSpec.ofChange askBackSpec)) askBackCard

/-- THE TIED CARD OF 'provostlaw08.AskUnlike'. -/
def askUnlikeCard : Claim7 := { stood := { row := askUnlikeRow, standIns := [], harness := (true, "042fead801131a7aabee669ec2210fbb2449b6433e4d7fd0aaec350937db92f0"), looks := true }, kinds := [], alts := [], laidByText := true, laidKinds := [.data, .data, .data, .data, .handle, .data, .data, .pinned], laidTests := true, laidLooks := .later }
def AskUnlikeCardSaid : Prop := Claim7.holds Tryz.pinned (.plain (OpenSpec.ofChange askUnlikeSpec)) askUnlikeCard

/-- THE SECOND FORM's CARD OF 'provostlaw07.PackRaws'. -/
def packRawsUptoCard : Claim7 := { stood := { row := packRawsUptoRow, standIns := [], harness := (true, "042fead801131a7aabee669ec2210fbb2449b6433e4d7fd0aaec350937db92f0"), looks := true }, kinds := [], alts := [], laidByText := true, laidKinds := [.data, .data, .data, .data, .handle, .data, .pinned], laidTests := true, laidLooks := .later }
def PackRawsUptoCardSaid : Prop := Claim7.holds Tryz.pinned (.plain (OpenSpec.upto packRawsSpec)) packRawsUptoCard

/-- THE SECOND FORM's CARD OF 'provostlaw07.PackReads'. -/
def packReadsUptoCard : Claim7 := { stood := { row := packReadsUptoRow, standIns := [], harness := (true, "042fead801131a7aabee669ec2210fbb2449b6433e4d7fd0aaec350937db92f0"), looks := true }, kinds := [], alts := [], laidByText := true, laidKinds := [.data, .data, .data, .data, .handle, .data, .pinned], laidTests := true, laidLooks := .later }
def PackReadsUptoCardSaid : Prop := Claim7.holds Tryz.pinned (.plain (OpenSpec.upto packReadsSpec)) packReadsUptoCard

/-- THE SECOND FORM's CARD OF 'provostlaw08.AskChecks'. -/
def askChecksUptoCard : Claim7 := { stood := { row := askChecksUptoRow, standIns := [], harness := (true, "042fead801131a7aabee669ec2210fbb2449b6433e4d7fd0aaec350937db92f0"), looks := true }, kinds := [], alts := [], laidByText := true, laidKinds := [.data, .data, .data, .data, .handle, .data, .data, .pinned], laidTests := true, laidLooks := .later }
def AskChecksUptoCardSaid : Prop := Claim7.holds Tryz.pinned (.plain (OpenSpec.upto askChecksSpec)) askChecksUptoCard

/-- THE SECOND FORM's CARD OF 'provostlaw08.AskNames'. -/
def askNamesUptoCard : Claim7 := { stood := { row := askNamesUptoRow, standIns := [], harness := (true, "042fead801131a7aabee669ec2210fbb2449b6433e4d7fd0aaec350937db92f0"), looks := true }, kinds := [], alts := [], laidByText := true, laidKinds := [.data, .data, .data, .data, .handle, .data, .data, .pinned], laidTests := true, laidLooks := .later }
def AskNamesUptoCardSaid : Prop := Claim7.holds Tryz.pinned (.plain (OpenSpec.upto askNamesSpec)) askNamesUptoCard

/-- THE SECOND FORM's CARD OF 'provostlaw08.AskBytes'. -/
def askBytesUptoCard : Claim7 := { stood := { row := askBytesUptoRow, standIns := [], harness := (true, "042fead801131a7aabee669ec2210fbb2449b6433e4d7fd0aaec350937db92f0"), looks := true }, kinds := [], alts := [], laidByText := true, laidKinds := [.data, .data, .data, .data, .handle, .data, .data, .pinned], laidTests := true, laidLooks := .later }
def AskBytesUptoCardSaid : Prop := Claim7.holds Tryz.pinned (.plain (OpenSpec.upto askBytesSpec)) askBytesUptoCard

/-- THE SECOND FORM's CARD OF 'provostlaw08.AskBack'. -/
def askBackUptoCard : Claim7 := { stood := { row := askBackUptoRow, standIns := [], harness := (true, "042fead801131a7aabee669ec2210fbb2449b6433e4d7fd0aaec350937db92f0"), looks := true }, kinds := [], alts := [], laidByText := true, laidKinds := [.data, .data, .data, .data, .handle, .data, .data, .pinned], laidTests := true, laidLooks := .later }
def AskBackUptoCardSaid : Prop := Claim7.holds Tryz.pinned (.plain (OpenSpec.upto askBackSpec)) askBackUptoCard

/-- THE SECOND FORM's CARD OF 'provostlaw08.AskUnlike'. -/
def askUnlikeUptoCard : Claim7 := { stood := { row := askUnlikeUptoRow, standIns := [], harness := (true, "042fead801131a7aabee669ec2210fbb2449b6433e4d7fd0aaec350937db92f0"), looks := true }, kinds := [], alts := [], laidByText := true, laidKinds := [.data, .data, .data, .data, .handle, .data, .data, .pinned], laidTests := true, laidLooks := .later }
def AskUnlikeUptoCardSaid : Prop := Claim7.holds Tryz.pinned (.plain (OpenSpec.upto askUnlikeSpec)) askUnlikeUptoCard
end Rows
end Go.Proofs.YtmeilidjomjocaaGreatDoor
