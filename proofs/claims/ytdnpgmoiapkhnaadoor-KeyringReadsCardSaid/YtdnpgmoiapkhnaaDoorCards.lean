/-
  DERIVED. GIVEN WITH THE SEED: THE CARDS: each row of YtdnpgmoiapkhnaaDoorRows.lean that lists a variable, with what it lists TIED to the program's text (the seventh form; the later family's looks); each row that meets fmt, with fmt's text TOLD by the authors' own Lean function (tested against real Go, not proved from fmt's source: count such statements apart). THE CARD IS WHAT COUNTS. Prove the row's statement (the work); the ties are given (YtdnpgmoiapkhnaaDoorTie.lean); close each card by the builder's one call (the guide's Derived/Test/ToyasCard.lean, 'card_holds'). Laid BY PROGRAM, IN A SANDBOX (cutbox-door.mjs). By AI agents, Wed Nov 11 2026. No macro, syntax, notation, axiom, sorry.
-/
import Derived.Test.YtdnpgmoiapkhnaaDoorRows
import GoSem.ClaimSeven
namespace Go.Proofs.YtdnpgmoiapkhnaaDoor
namespace Rows

/-- THE TIED CARD OF 'scriniumlaw13.KeyringReads'. -/
def keyringReadsCard : Claim7 := { stood := { row := keyringReadsRow, standIns := [], harness := (true, "44637ca0661f90d480c530347dd24426547ec9a319a01568b483bbe0f94191f6"), looks := false }, kinds := [], alts := [], laidByText := true, laidKinds := [.data, .data], laidTests := true, laidLooks := .later }
def KeyringReadsCardSaid : Prop := Claim7.holds Tryd.pinned (.plain (OpenSpec.ofChange keyringReadsSpec)) keyringReadsCard

/-- THE TIED CARD OF 'scriniumlaw14.SealBack'. -/
def sealBackCard : Claim7 := { stood := { row := sealBackRow, standIns := [], harness := (true, "44637ca0661f90d480c530347dd24426547ec9a319a01568b483bbe0f94191f6"), looks := false }, kinds := [], alts := [], laidByText := true, laidKinds := [.data, .data], laidTests := true, laidLooks := .later }
def SealBackCardSaid : Prop := Claim7.holds Tryd.pinned (.plain (OpenSpec.ofChange sealBackSpec)) sealBackCard

/-- THE TIED CARD OF 'scriniumlaw14.SealBlind'. -/
def sealBlindCard : Claim7 := { stood := { row := sealBlindRow, standIns := [], harness := (true, "44637ca0661f90d480c530347dd24426547ec9a319a01568b483bbe0f94191f6"), looks := false }, kinds := [], alts := [], laidByText := true, laidKinds := [.data, .data], laidTests := true, laidLooks := .later }
def SealBlindCardSaid : Prop := Claim7.holds Tryd.pinned (.plain (OpenSpec.ofChange sealBlindSpec)) sealBlindCard

/-- THE SECOND FORM's CARD OF 'scriniumlaw13.KeyringReads'. -/
def keyringReadsUptoCard : Claim7 := { stood := { row := keyringReadsUptoRow, standIns := [], harness := (true, "44637ca0661f90d480c530347dd24426547ec9a319a01568b483bbe0f94191f6"), looks := false }, kinds := [], alts := [], laidByText := true, laidKinds := [.data, .data], laidTests := true, laidLooks := .later }
def KeyringReadsUptoCardSaid : Prop := Claim7.holds Tryd.pinned (.plain (OpenSpec.upto keyringReadsSpec)) keyringReadsUptoCard

/-- THE SECOND FORM's CARD OF 'scriniumlaw14.SealBack'. -/
def sealBackUptoCard : Claim7 := { stood := { row := sealBackUptoRow, standIns := [], harness := (true, "44637ca0661f90d480c530347dd24426547ec9a319a01568b483bbe0f94191f6"), looks := false }, kinds := [], alts := [], laidByText := true, laidKinds := [.data, .data], laidTests := true, laidLooks := .later }
def SealBackUptoCardSaid : Prop := Claim7.holds Tryd.pinned (.plain (OpenSpec.upto sealBackSpec)) sealBackUptoCard

/-- THE SECOND FORM's CARD OF 'scriniumlaw14.SealBlind'. -/
def sealBlindUptoCard : Claim7 := { stood := { row := sealBlindUptoRow, standIns := [], harness := (true, "44637ca0661f90d480c530347dd24426547ec9a319a01568b483bbe0f94191f6"), looks := false }, kinds := [], alts := [], laidByText := true, laidKinds := [.data, .data], laidTests := true, laidLooks := .later }
def SealBlindUptoCardSaid : Prop := Claim7.holds Tryd.pinned (.plain (OpenSpec.upto sealBlindSpec)) sealBlindUptoCard
end Rows
end Go.Proofs.YtdnpgmoiapkhnaaDoor
