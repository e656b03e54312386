/-
  DERIVED. GIVEN WITH THE SEED: THE CARDS: each row of YtnccgaanfjaimaaDoorRows.lean that lists a variable, with what it lists TIED to the program's text (the seventh form; the later family's looks); each row that meets fmt, with fmt's text TOLD by the authors' own Lean function (tested against real Go, not proved from fmt's source: count such statements apart). THE CARD IS WHAT COUNTS. Prove the row's statement (the work); the ties are given (YtnccgaanfjaimaaDoorTie.lean); close each card by the builder's one call (the guide's Derived/Test/ToyasCard.lean, 'card_holds'). Laid BY PROGRAM, IN A SANDBOX (cutbox-door.mjs). By AI agents, Wed Nov 11 2026. No macro, syntax, notation, axiom, sorry.
-/
import Derived.Test.YtnccgaanfjaimaaDoorRows
import GoSem.ClaimSeven
namespace Go.Proofs.YtnccgaanfjaimaaDoor
namespace Rows

/-- THE TIED CARD OF 'kinescopelaw08.NfaTells'. -/
def nfaTellsCard : Claim7 := { stood := { row := nfaTellsRow, standIns := [], harness := (true, "24a84d2d923fbf1e7355518783b0a5b800e551e7ea855aff33fac3f332b78d74"), looks := false }, kinds := [], alts := [], laidByText := true, laidKinds := [.data], laidTests := true, laidLooks := .later }
def NfaTellsCardSaid : Prop := Claim7.holds Tryd.pinned (.plain (OpenSpec.ofChange nfaTellsSpec)) nfaTellsCard

/-- THE TIED CARD OF 'kinescopelaw08.NfaSteps'. -/
def nfaStepsCard : Claim7 := { stood := { row := nfaStepsRow, standIns := [], harness := (true, "24a84d2d923fbf1e7355518783b0a5b800e551e7ea855aff33fac3f332b78d74"), looks := false }, kinds := [], alts := [], laidByText := true, laidKinds := [.data], laidTests := true, laidLooks := .later }
def NfaStepsCardSaid : Prop := Claim7.holds Tryd.pinned (.plain (OpenSpec.ofChange nfaStepsSpec)) nfaStepsCard

/-- THE TIED CARD OF 'kinescopelaw08.NfaEnds'. -/
def nfaEndsCard : Claim7 := { stood := { row := nfaEndsRow, standIns := [], harness := (true, "24a84d2d923fbf1e7355518783b0a5b800e551e7ea855aff33fac3f332b78d74"), looks := false }, kinds := [], alts := [], laidByText := true, laidKinds := [.data], laidTests := true, laidLooks := .later }
def NfaEndsCardSaid : Prop := Claim7.holds Tryd.pinned (.plain (OpenSpec.ofChange nfaEndsSpec)) nfaEndsCard

/-- THE TIED CARD OF 'kinescopelaw08.NfaWords'. -/
def nfaWordsCard : Claim7 := { stood := { row := nfaWordsRow, standIns := [], harness := (true, "24a84d2d923fbf1e7355518783b0a5b800e551e7ea855aff33fac3f332b78d74"), looks := false }, kinds := [], alts := [], laidByText := true, laidKinds := [.data], laidTests := true, laidLooks := .later }
def NfaWordsCardSaid : Prop := Claim7.holds Tryd.pinned (.plain (OpenSpec.ofChange nfaWordsSpec)) nfaWordsCard

/-- THE TIED CARD OF 'kinescopelaw08.NfaWalks'. -/
def nfaWalksCard : Claim7 := { stood := { row := nfaWalksRow, standIns := [], harness := (true, "24a84d2d923fbf1e7355518783b0a5b800e551e7ea855aff33fac3f332b78d74"), looks := false }, kinds := [], alts := [], laidByText := true, laidKinds := [.data], laidTests := true, laidLooks := .later }
def NfaWalksCardSaid : Prop := Claim7.holds Tryd.pinned (.plain (OpenSpec.ofChange nfaWalksSpec)) nfaWalksCard

/-- THE SECOND FORM's CARD OF 'kinescopelaw08.NfaTells'. -/
def nfaTellsUptoCard : Claim7 := { stood := { row := nfaTellsUptoRow, standIns := [], harness := (true, "24a84d2d923fbf1e7355518783b0a5b800e551e7ea855aff33fac3f332b78d74"), looks := false }, kinds := [], alts := [], laidByText := true, laidKinds := [.data], laidTests := true, laidLooks := .later }
def NfaTellsUptoCardSaid : Prop := Claim7.holds Tryd.pinned (.plain (OpenSpec.upto nfaTellsSpec)) nfaTellsUptoCard

/-- THE SECOND FORM's CARD OF 'kinescopelaw08.NfaSteps'. -/
def nfaStepsUptoCard : Claim7 := { stood := { row := nfaStepsUptoRow, standIns := [], harness := (true, "24a84d2d923fbf1e7355518783b0a5b800e551e7ea855aff33fac3f332b78d74"), looks := false }, kinds := [], alts := [], laidByText := true, laidKinds := [.data], laidTests := true, laidLooks := .later }
def NfaStepsUptoCardSaid : Prop := Claim7.holds Tryd.pinned (.plain (OpenSpec.upto nfaStepsSpec)) nfaStepsUptoCard

/-- THE SECOND FORM's CARD OF 'kinescopelaw08.NfaEnds'. -/
def nfaEndsUptoCard : Claim7 := { stood := { row := nfaEndsUptoRow, standIns := [], harness := (true, "24a84d2d923fbf1e7355518783b0a5b800e551e7ea855aff33fac3f332b78d74"), looks := false }, kinds := [], alts := [], laidByText := true, laidKinds := [.data], laidTests := true, laidLooks := .later }
def NfaEndsUptoCardSaid : Prop := Claim7.holds Tryd.pinned (.plain (OpenSpec.upto nfaEndsSpec)) nfaEndsUptoCard

/-- THE SECOND FORM's CARD OF 'kinescopelaw08.NfaWords'. -/
def nfaWordsUptoCard : Claim7 := { stood := { row := nfaWordsUptoRow, standIns := [], harness := (true, "24a84d2d923fbf1e7355518783b0a5b800e551e7ea855aff33fac3f332b78d74"), looks := false }, kinds := [], alts := [], laidByText := true, laidKinds := [.data], laidTests := true, laidLooks := .later }
def NfaWordsUptoCardSaid : Prop := Claim7.holds Tryd.pinned (.plain (OpenSpec.upto nfaWordsSpec)) nfaWordsUptoCard

/-- THE SECOND FORM's CARD OF 'kinescopelaw08.NfaWalks'. -/
def nfaWalksUptoCard : Claim7 := { stood := { row := nfaWalksUptoRow, standIns := [], harness := (true, "24a84d2d923fbf1e7355518783b0a5b800e551e7ea855aff33fac3f332b78d74"), looks := false }, kinds := [], alts := [], laidByText := true, laidKinds := [.data], laidTests := true, laidLooks := .later }
def NfaWalksUptoCardSaid : Prop := Claim7.holds Tryd.pinned (.plain (OpenSpec.upto nfaWalksSpec)) nfaWalksUptoCard
end Rows
end Go.Proofs.YtnccgaanfjaimaaDoor
