/-
  DERIVED. GIVEN WITH THE SEED: THE CARDS: each row of YtobhbppogeghnaaGreatDoorRows.lean that lists a variable, with what it lists TIED to the program's text (the seventh form; the later family's looks); each row that meets fmt, with fmt's text TOLD by the authors' own Lean function (tested against real Go, not proved from fmt's source: count such statements apart). THE CARD IS WHAT COUNTS. Prove the row's statement (the work); the ties are given (YtobhbppogeghnaaGreatDoorTie.lean); close each card by the builder's one call (the guide's Derived/Test/ToyasCard.lean, 'card_holds'). Laid BY PROGRAM, IN A SANDBOX (cutbox-door.mjs). By AI agents, Wed Nov 11 2026. No macro, syntax, notation, axiom, sorry.
-/
import Derived.Test.YtobhbppogeghnaaGreatDoorRows
import GoSem.ClaimSeven
namespace Go.Proofs.YtobhbppogeghnaaGreatDoor
namespace Rows

/-- THE TIED CARD OF 'scriniumlaw15.BarrierPlays'. -/
def barrierPlaysCard : Claim7 := { stood := { row := barrierPlaysRow, standIns := [], harness := (true, "6e53106fb397fe43509b36451db9733913279da62524b1bef4b77b98419de04c"), looks := false }, kinds := [], alts := [], laidByText := true, laidKinds := [.data, .data], laidTests := true, laidLooks := .later }
def BarrierPlaysCardSaid : Prop := Claim7.holds Tryz.pinned (.plain (OpenSpec.ofChange barrierPlaysSpec)) barrierPlaysCard

/-- THE TIED CARD OF 'scriniumlaw15.BarrierBack'. -/
def barrierBackCard : Claim7 := { stood := { row := barrierBackRow, standIns := [], harness := (true, "6e53106fb397fe43509b36451db9733913279da62524b1bef4b77b98419de04c"), looks := false }, kinds := [], alts := [], laidByText := true, laidKinds := [.data, .data], laidTests := true, laidLooks := .later }
def BarrierBackCardSaid : Prop := Claim7.holds Tryz.pinned (.plain (OpenSpec.ofChange barrierBackSpec)) barrierBackCard

/-- THE TIED CARD OF 'scriniumlaw15.BarrierWrong'. -/
def barrierWrongCard : Claim7 := { stood := { row := barrierWrongRow, standIns := [], harness := (true, "6e53106fb397fe43509b36451db9733913279da62524b1bef4b77b98419de04c"), looks := false }, kinds := [], alts := [], laidByText := true, laidKinds := [.data, .data], laidTests := true, laidLooks := .later }
def BarrierWrongCardSaid : Prop := Claim7.holds Tryz.pinned (.plain (OpenSpec.ofChange barrierWrongSpec)) barrierWrongCard

/-- THE TIED CARD OF 'scriniumlaw15.BarrierRetire'. -/
def barrierRetireCard : Claim7 := { stood := { row := barrierRetireRow, standIns := [], harness := (true, "6e53106fb397fe43509b36451db9733913279da62524b1bef4b77b98419de04c"), looks := false }, kinds := [], alts := [], laidByText := true, laidKinds := [.data, .data], laidTests := true, laidLooks := .later }
def BarrierRetireCardSaid : Prop := Claim7.holds Tryz.pinned (.plain (OpenSpec.ofChange barrierRetireSpec)) barrierRetireCard

/-- THE SECOND FORM's CARD OF 'scriniumlaw15.BarrierPlays'. -/
def barrierPlaysUptoCard : Claim7 := { stood := { row := barrierPlaysUptoRow, standIns := [], harness := (true, "6e53106fb397fe43509b36451db9733913279da62524b1bef4b77b98419de04c"), looks := false }, kinds := [], alts := [], laidByText := true, laidKinds := [.data, .data], laidTests := true, laidLooks := .later }
def BarrierPlaysUptoCardSaid : Prop := Claim7.holds Tryz.pinned (.plain (OpenSpec.upto barrierPlaysSpec)) barrierPlaysUptoCard

/-- THE SECOND FORM's CARD OF 'scriniumlaw15.BarrierBack'. -/
def barrierBackUptoCard : Claim7 := { stood := { row := barrierBackUptoRow, standIns := [], harness := (true, "6e53106fb397fe43509b36451db9733913279da62524b1bef4b77b98419de04c"), looks := false }, kinds := [], alts := [], laidByText := true, laidKinds := [.data, .data], laidTests := true, laidLooks := .later }
def BarrierBackUptoCardSaid : Prop := Claim7.holds Tryz.pinned (.plain (OpenSpec.upto barrierBackSpec)) barrierBackUptoCard

/-- THE SECOND FORM's CARD OF 'scriniumlaw15.BarrierWrong'. -/
def barrierWrongUptoCard : Claim7 := { stood := { row := barrierWrongUptoRow, standIns := [], harness := (true, "6e53106fb397fe43509b36451db9733913279da62524b1bef4b77b98419de04c"), looks := false }, kinds := [], alts := [], laidByText := true, laidKinds := [.data, .data], laidTests := true, laidLooks := .later }
def BarrierWrongUptoCardSaid : Prop := Claim7.holds Tryz.pinned (.plain (OpenSpec.upto barrierWrongSpec)) barrierWrongUptoCard

/-- THE SECOND FORM's CARD OF 'scriniumlaw15.BarrierRetire'. -/
def barrierRetireUptoCard : Claim7 := { stood := { row := barrierRetireUptoRow, standIns := [], harness := (true, "6e53106fb397fe43509b36451db9733913279da62524b1bef4b77b98419de04c"), looks := false }, kinds := [], alts := [], laidByText := true, laidKinds := [.data, .data], laidTests := true, laidLooks := .later }
def BarrierRetireUptoCardSaid : Prop := Claim7.holds Tryz.pinned (.plain (OpenSpec.upto barrierRetireSpec)) barrierRetireUptoCard
end Rows
end Go.Proofs.YtobhbppogeghnaaGreatDoor
