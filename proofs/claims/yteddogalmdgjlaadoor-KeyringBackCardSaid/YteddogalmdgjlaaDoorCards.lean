/-
  DERIVED. GIVEN WITH THE SEED: THE CARDS: each row of YteddogalmdgjlaaDoorRows.lean that lists a variable, with what it lists TIED to the program's text (the seventh form; the later family's looks); each row that meets fmt, with fmt's text TOLD by the authors' own Lean function (tested against real Go, not proved from fmt's source: count such statements apart). THE CARD IS WHAT COUNTS. Prove the row's statement (the work); the ties are given (YteddogalmdgjlaaDoorTie.lean); close each card by the builder's one call (the guide's Derived/Test/ToyasCard.lean, 'card_holds'). Laid BY PROGRAM, IN A SANDBOX (cutbox-door.mjs). By AI agents, Wed Nov 11 2026. No macro, syntax, notation, axiom, sorry.
-/
import Derived.Test.YteddogalmdgjlaaDoorRows
import GoSem.ClaimSeven
namespace Go.Proofs.YteddogalmdgjlaaDoor
namespace Rows

/-- THE TIED CARD OF 'scriniumlaw13.KeyringReads'. -/
def keyringReadsCard : Claim7 := { stood := { row := keyringReadsRow, standIns := [], harness := (true, "af4186620d1a7df5ad788c46d899412bde2df100fa26fc5075a11885aa0d00ec"), looks := true }, kinds := [], alts := [], laidByText := true, laidKinds := [.data, .data], laidTests := true, laidLooks := .later }
def KeyringReadsCardSaid : Prop := Claim7.holds Tryd.pinned (.plain (OpenSpec.ofChange keyringReadsSpec)) keyringReadsCard

/-- THE TIED CARD OF 'scriniumlaw13.KeyringBack'. -/
def keyringBackCard : Claim7 := { stood := { row := keyringBackRow, standIns := [], harness := (true, "af4186620d1a7df5ad788c46d899412bde2df100fa26fc5075a11885aa0d00ec"), looks := true }, kinds := [], alts := [], laidByText := true, laidKinds := [.data, .data], laidTests := true, laidLooks := .later }
def KeyringBackCardSaid : Prop := Claim7.holds Tryd.pinned (.plain (OpenSpec.ofChange keyringBackSpec)) keyringBackCard

/-- THE TIED CARD OF 'scriniumlaw13.KeyringOrder'. -/
def keyringOrderCard : Claim7 := { stood := { row := keyringOrderRow, standIns := [], harness := (true, "af4186620d1a7df5ad788c46d899412bde2df100fa26fc5075a11885aa0d00ec"), looks := true }, kinds := [], alts := [], laidByText := true, laidKinds := [.data, .data], laidTests := true, laidLooks := .later }
def KeyringOrderCardSaid : Prop := Claim7.holds Tryd.pinned (.plain (OpenSpec.ofChange keyringOrderSpec)) keyringOrderCard

/-- THE SECOND FORM's CARD OF 'scriniumlaw13.KeyringReads'. -/
def keyringReadsUptoCard : Claim7 := { stood := { row := keyringReadsUptoRow, standIns := [], harness := (true, "af4186620d1a7df5ad788c46d899412bde2df100fa26fc5075a11885aa0d00ec"), looks := true }, kinds := [], alts := [], laidByText := true, laidKinds := [.data, .data], laidTests := true, laidLooks := .later }
def KeyringReadsUptoCardSaid : Prop := Claim7.holds Tryd.pinned (.plain (OpenSpec.upto keyringReadsSpec)) keyringReadsUptoCard

/-- THE SECOND FORM's CARD OF 'scriniumlaw13.KeyringBack'. -/
def keyringBackUptoCard : Claim7 := { stood := { row := keyringBackUptoRow, standIns := [], harness := (true, "af4186620d1a7df5ad788c46d899412bde2df100fa26fc5075a11885aa0d00ec"), looks := true }, kinds := [], alts := [], laidByText := true, laidKinds := [.data, .data], laidTests := true, laidLooks := .later }
def KeyringBackUptoCardSaid : Prop := Claim7.holds Tryd.pinned (.plain (OpenSpec.upto keyringBackSpec)) keyringBackUptoCard

/-- THE SECOND FORM's CARD OF 'scriniumlaw13.KeyringOrder'. -/
def keyringOrderUptoCard : Claim7 := { stood := { row := keyringOrderUptoRow, standIns := [], harness := (true, "af4186620d1a7df5ad788c46d899412bde2df100fa26fc5075a11885aa0d00ec"), looks := true }, kinds := [], alts := [], laidByText := true, laidKinds := [.data, .data], laidTests := true, laidLooks := .later }
def KeyringOrderUptoCardSaid : Prop := Claim7.holds Tryd.pinned (.plain (OpenSpec.upto keyringOrderSpec)) keyringOrderUptoCard
end Rows
end Go.Proofs.YteddogalmdgjlaaDoor
