/-
  DERIVED. GIVEN WITH THE SEED: THE CARDS: each row of YtdnpgmoiapkhnaaGreatDoorRows.lean that lists a variable, with what it lists TIED to the program's text (the seventh form; the later family's looks); each row that meets fmt, with fmt's text TOLD by the authors' own Lean function (tested against real Go, not proved from fmt's source: count such statements apart). THE CARD IS WHAT COUNTS. Prove the row's statement (the work); the ties are given (YtdnpgmoiapkhnaaGreatDoorTie.lean); close each card by the builder's one call (the guide's Derived/Test/ToyasCard.lean, 'card_holds'). Laid BY PROGRAM, IN A SANDBOX (cutbox-door.mjs). By AI agents, Wed Nov 11 2026. No macro, syntax, notation, axiom, sorry.
-/
import Derived.Test.YtdnpgmoiapkhnaaGreatDoorRows
import GoSem.ClaimSeven
namespace Go.Proofs.YtdnpgmoiapkhnaaGreatDoor
namespace Rows

/-- THE TIED CARD OF 'scriniumlaw13.KeyringPlays'. -/
def keyringPlaysCard : Claim7 := { stood := { row := keyringPlaysRow, standIns := [], harness := (true, "973015017be61b7007e0bfc411c8ec8f0427802053ab17c61eb3a82a9cc02547"), looks := true }, kinds := [], alts := [], laidByText := true, laidKinds := [.data, .data], laidTests := true, laidLooks := .later }
def KeyringPlaysCardSaid : Prop := Claim7.holds Tryz.pinned (.plain (OpenSpec.ofChange keyringPlaysSpec)) keyringPlaysCard

/-- THE TIED CARD OF 'scriniumlaw14.SealCloses'. -/
def sealClosesCard : Claim7 := { stood := { row := sealClosesRow, standIns := [], harness := (true, "973015017be61b7007e0bfc411c8ec8f0427802053ab17c61eb3a82a9cc02547"), looks := true }, kinds := [], alts := [], laidByText := true, laidKinds := [.data, .data], laidTests := true, laidLooks := .later }
def SealClosesCardSaid : Prop := Claim7.holds Tryz.pinned (.plain (OpenSpec.ofChange sealClosesSpec)) sealClosesCard

/-- THE TIED CARD OF 'scriniumlaw14.SealOpens'. -/
def sealOpensCard : Claim7 := { stood := { row := sealOpensRow, standIns := [], harness := (true, "973015017be61b7007e0bfc411c8ec8f0427802053ab17c61eb3a82a9cc02547"), looks := true }, kinds := [], alts := [], laidByText := true, laidKinds := [.data, .data], laidTests := true, laidLooks := .later }
def SealOpensCardSaid : Prop := Claim7.holds Tryz.pinned (.plain (OpenSpec.ofChange sealOpensSpec)) sealOpensCard

/-- THE TIED CARD OF 'scriniumlaw14.SealRing'. -/
def sealRingCard : Claim7 := { stood := { row := sealRingRow, standIns := [], harness := (true, "973015017be61b7007e0bfc411c8ec8f0427802053ab17c61eb3a82a9cc02547"), looks := true }, kinds := [], alts := [], laidByText := true, laidKinds := [.data, .data], laidTests := true, laidLooks := .later }
def SealRingCardSaid : Prop := Claim7.holds Tryz.pinned (.plain (OpenSpec.ofChange sealRingSpec)) sealRingCard

/-- THE SECOND FORM's CARD OF 'scriniumlaw13.KeyringPlays'. -/
def keyringPlaysUptoCard : Claim7 := { stood := { row := keyringPlaysUptoRow, standIns := [], harness := (true, "973015017be61b7007e0bfc411c8ec8f0427802053ab17c61eb3a82a9cc02547"), looks := true }, kinds := [], alts := [], laidByText := true, laidKinds := [.data, .data], laidTests := true, laidLooks := .later }
def KeyringPlaysUptoCardSaid : Prop := Claim7.holds Tryz.pinned (.plain (OpenSpec.upto keyringPlaysSpec)) keyringPlaysUptoCard

/-- THE SECOND FORM's CARD OF 'scriniumlaw14.SealCloses'. -/
def sealClosesUptoCard : Claim7 := { stood := { row := sealClosesUptoRow, standIns := [], harness := (true, "973015017be61b7007e0bfc411c8ec8f0427802053ab17c61eb3a82a9cc02547"), looks := true }, kinds := [], alts := [], laidByText := true, laidKinds := [.data, .data], laidTests := true, laidLooks := .later }
def SealClosesUptoCardSaid : Prop := Claim7.holds Tryz.pinned (.plain (OpenSpec.upto sealClosesSpec)) sealClosesUptoCard

/-- THE SECOND FORM's CARD OF 'scriniumlaw14.SealOpens'. -/
def sealOpensUptoCard : Claim7 := { stood := { row := sealOpensUptoRow, standIns := [], harness := (true, "973015017be61b7007e0bfc411c8ec8f0427802053ab17c61eb3a82a9cc02547"), looks := true }, kinds := [], alts := [], laidByText := true, laidKinds := [.data, .data], laidTests := true, laidLooks := .later }
def SealOpensUptoCardSaid : Prop := Claim7.holds Tryz.pinned (.plain (OpenSpec.upto sealOpensSpec)) sealOpensUptoCard

/-- THE SECOND FORM's CARD OF 'scriniumlaw14.SealRing'. -/
def sealRingUptoCard : Claim7 := { stood := { row := sealRingUptoRow, standIns := [], harness := (true, "973015017be61b7007e0bfc411c8ec8f0427802053ab17c61eb3a82a9cc02547"), looks := true }, kinds := [], alts := [], laidByText := true, laidKinds := [.data, .data], laidTests := true, laidLooks := .later }
def SealRingUptoCardSaid : Prop := Claim7.holds Tryz.pinned (.plain (OpenSpec.upto sealRingSpec)) sealRingUptoCard
end Rows
end Go.Proofs.YtdnpgmoiapkhnaaGreatDoor
