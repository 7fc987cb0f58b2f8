/-
  DERIVED. GIVEN WITH THE SEED: THE CARDS: each row of YtpllcnpmjnmcfaaDoorRows.lean that lists a variable, with what it lists TIED to the program's text (the seventh form; the later family's looks); each row that meets fmt, with fmt's text TOLD by the authors' own Lean function (tested against real Go, not proved from fmt's source: count such statements apart). THE CARD IS WHAT COUNTS. Prove the row's statement (the work); the ties are given (YtpllcnpmjnmcfaaDoorTie.lean); close each card by the builder's one call (the guide's Derived/Test/ToyasCard.lean, 'card_holds'). Laid BY PROGRAM, IN A SANDBOX (cutbox-door.mjs). By AI agents, Wed Nov 11 2026. No macro, syntax, notation, axiom, sorry.
-/
import Derived.Test.YtpllcnpmjnmcfaaDoorRows
import GoSem.ClaimSeven
namespace Go.Proofs.YtpllcnpmjnmcfaaDoor
namespace Rows

/-- THE TIED CARD OF 'provostlaw14.ResReckons'. -/
def resReckonsCard : Claim7 := { stood := { row := resReckonsRow, standIns := [], harness := (true, "42a84b26702bcae0ecb7901c9d6a7dffc56c9efc58dd2a8a92001219beeed751"), looks := false }, kinds := [], alts := [], laidByText := true, laidKinds := [.data, .data, .data], laidTests := true, laidLooks := .later }
def ResReckonsCardSaid : Prop := Claim7.holds Tryd.pinned (.plain (OpenSpec.ofChange resReckonsSpec)) resReckonsCard

/-- THE TIED CARD OF 'provostlaw14.ResSums'. -/
def resSumsCard : Claim7 := { stood := { row := resSumsRow, standIns := [], harness := (true, "42a84b26702bcae0ecb7901c9d6a7dffc56c9efc58dd2a8a92001219beeed751"), looks := false }, kinds := [], alts := [], laidByText := true, laidKinds := [.data, .data, .data], laidTests := true, laidLooks := .later }
def ResSumsCardSaid : Prop := Claim7.holds Tryd.pinned (.plain (OpenSpec.ofChange resSumsSpec)) resSumsCard

/-- THE TIED CARD OF 'provostlaw14.ResTurns'. -/
def resTurnsCard : Claim7 := { stood := { row := resTurnsRow, standIns := [], harness := (true, "42a84b26702bcae0ecb7901c9d6a7dffc56c9efc58dd2a8a92001219beeed751"), looks := false }, kinds := [], alts := [], laidByText := true, laidKinds := [.data, .data, .data], laidTests := true, laidLooks := .later }
def ResTurnsCardSaid : Prop := Claim7.holds Tryd.pinned (.plain (OpenSpec.ofChange resTurnsSpec)) resTurnsCard

/-- THE TIED CARD OF 'provostlaw14.ResCovers'. -/
def resCoversCard : Claim7 := { stood := { row := resCoversRow, standIns := [], harness := (true, "42a84b26702bcae0ecb7901c9d6a7dffc56c9efc58dd2a8a92001219beeed751"), looks := false }, kinds := [], alts := [], laidByText := true, laidKinds := [.data, .data, .data, .data, .data, .pinned], laidTests := true, laidLooks := .later }
def ResCoversCardSaid : Prop := Claim7.holds Tryd.pinned (.plain (OpenSpec.ofChange resCoversSpec)) resCoversCard

/-- THE SECOND FORM's CARD OF 'provostlaw14.ResReckons'. -/
def resReckonsUptoCard : Claim7 := { stood := { row := resReckonsUptoRow, standIns := [], harness := (true, "42a84b26702bcae0ecb7901c9d6a7dffc56c9efc58dd2a8a92001219beeed751"), looks := false }, kinds := [], alts := [], laidByText := true, laidKinds := [.data, .data, .data], laidTests := true, laidLooks := .later }
def ResReckonsUptoCardSaid : Prop := Claim7.holds Tryd.pinned (.plain (OpenSpec.upto resReckonsSpec)) resReckonsUptoCard

/-- THE SECOND FORM's CARD OF 'provostlaw14.ResSums'. -/
def resSumsUptoCard : Claim7 := { stood := { row := resSumsUptoRow, standIns := [], harness := (true, "42a84b26702bcae0ecb7901c9d6a7dffc56c9efc58dd2a8a92001219beeed751"), looks := false }, kinds := [], alts := [], laidByText := true, laidKinds := [.data, .data, .data], laidTests := true, laidLooks := .later }
def ResSumsUptoCardSaid : Prop := Claim7.holds Tryd.pinned (.plain (OpenSpec.upto resSumsSpec)) resSumsUptoCard

/-- THE SECOND FORM's CARD OF 'provostlaw14.ResTurns'. -/
def resTurnsUptoCard : Claim7 := { stood := { row := resTurnsUptoRow, standIns := [], harness := (true, "42a84b26702bcae0ecb7901c9d6a7dffc56c9efc58dd2a8a92001219beeed751"), looks := false }, kinds := [], alts := [], laidByText := true, laidKinds := [.data, .data, .data], laidTests := true, laidLooks := .later }
def ResTurnsUptoCardSaid : Prop := Claim7.holds Tryd.pinned (.plain (OpenSpec.upto resTurnsSpec)) resTurnsUptoCard

/-- THE SECOND FORM's CARD OF 'provostlaw14.ResCovers'. -/
def resCoversUptoCard : Claim7 := { stood := { row := resCoversUptoRow, standIns := [], harness := (true, "42a84b26702bcae0ecb7901c9d6a7dffc56c9efc58dd2a8a92001219beeed751"), looks := false }, kinds := [], alts := [], laidByText := true, laidKinds := [.data, .data, .data, .data, .data, .pinned], laidTests := true, laidLooks := .later }
def ResCoversUptoCardSaid : Prop := Claim7.holds Tryd.pinned (.plain (OpenSpec.upto resCoversSpec)) resCoversUptoCard
end Rows
end Go.Proofs.YtpllcnpmjnmcfaaDoor
