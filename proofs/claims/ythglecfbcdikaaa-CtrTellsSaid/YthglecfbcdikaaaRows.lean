/-
  No cell of these rows narrows 'for every input' (looked for: loops, veiled, ifaces, maps, wideKeys, modest, calm, conditions, laid).
  DERIVED. THE GIVEN ROWS OF THIS SEAT. 4 by the template 'for every input the law returns true; each argument reads behind the call as it read before'; 0 by the template 'total and deterministic' (their statements: YthglecfbcdikaaaTotals.lean).
  GIVEN WITH THE SEED: the statements are not yours to turn. If you find one false, say at which input.
  Laid BY PROGRAM, IN A SANDBOX (cutbox-rows.mjs): the forced cells as the released guide's own fill.sh prints them over the translation 5600cb008a995cb5… (all of the seat's roots in one cut). By AI agents, Wed Nov 11 2026. No macro, syntax, notation, axiom, sorry.
-/
import Derived.Test.YthglecfbcdikaaaChecked
import GoSem.Claim
import GoSem.ClaimJoined
import GoSem.ClaimMapViews
import Derived.JoinedTies
import Derived.KernelRfl
namespace Go.Proofs.Ythglecfbcdikaaa
/- THE CELL 'sum', in the pinned program and in every row, IS THE sha256 OF THE DUMP (.gsa) THAT YthglecfbcdikaaaProg.lean LOADS. Nothing in Lean hashes anything: it is a label: what it is worth is what the hold of that sum in a sandbox is worth. -/
noncomputable def Try.pinned : Pinned := { name := "ythglecfbcdikaaa", sum := "5600cb008a995cb599c8b0de9c0c6d32ccb6fff5f079d4afb0ffbf18fb2bbb9d", checked := Try.checked }
namespace Rows
def none {H : Type} : Left H := { results := [], args := [] }

/-- 'scriniumlaw05.CtrTells': WHATEVER THE INPUT: true; the input reads as it did. -/
def ctrTellsSpec : ChangeSpec := { name := "ctrTells", fn := fun _ => fun
  | [d1, d2, d3, d4, d5, d6] => { results := [.lit (.bool true)], args := [d1, d2, d3, d4, d5, d6] }
  | _ => none }
def ctrTellsRow : OpenClaim := { program := "ythglecfbcdikaaa", sum := "5600cb008a995cb599c8b0de9c0c6d32ccb6fff5f079d4afb0ffbf18fb2bbb9d", func := "scrinium/scriniumlaw05.CtrTells", spec := "ctrTells", inPlace := ["internal/abi.NoEscape"], unfollowed := true, recurses := true, apart := false }
def CtrTellsSaid : Prop := ctrTellsRow.holds Try.pinned (OpenSpec.ofChange ctrTellsSpec)

/-- ITS FALSE NEIGHBOUR: 'it returns false'. Refute it at one input. -/
def ctrTellsWrong : ChangeSpec := { name := "ctrTells", fn := fun _ => fun
  | [d1, d2, d3, d4, d5, d6] => { results := [.lit (.bool false)], args := [d1, d2, d3, d4, d5, d6] }
  | _ => none }
def CtrTellsWrongFalsely : Prop := ctrTellsRow.holds Try.pinned (OpenSpec.ofChange ctrTellsWrong)

/-- 'scriniumlaw05.CtrBack': WHATEVER THE INPUT: true; the input reads as it did. -/
def ctrBackSpec : ChangeSpec := { name := "ctrBack", fn := fun _ => fun
  | [d1, d2, d3, d4, d5] => { results := [.lit (.bool true)], args := [d1, d2, d3, d4, d5] }
  | _ => none }
def ctrBackRow : OpenClaim := { program := "ythglecfbcdikaaa", sum := "5600cb008a995cb599c8b0de9c0c6d32ccb6fff5f079d4afb0ffbf18fb2bbb9d", func := "scrinium/scriniumlaw05.CtrBack", spec := "ctrBack", inPlace := ["internal/abi.NoEscape"], unfollowed := true, recurses := true, apart := false }
def CtrBackSaid : Prop := ctrBackRow.holds Try.pinned (OpenSpec.ofChange ctrBackSpec)

/-- ITS FALSE NEIGHBOUR: 'it returns false'. Refute it at one input. -/
def ctrBackWrong : ChangeSpec := { name := "ctrBack", fn := fun _ => fun
  | [d1, d2, d3, d4, d5] => { results := [.lit (.bool false)], args := [d1, d2, d3, d4, d5] }
  | _ => none }
def CtrBackWrongFalsely : Prop := ctrBackRow.holds Try.pinned (OpenSpec.ofChange ctrBackWrong)

/-- 'scriniumlaw05.CtrEnds': WHATEVER THE INPUT: true; the input reads as it did. -/
def ctrEndsSpec : ChangeSpec := { name := "ctrEnds", fn := fun _ => fun
  | [d1, d2, d3] => { results := [.lit (.bool true)], args := [d1, d2, d3] }
  | _ => none }
def ctrEndsRow : OpenClaim := { program := "ythglecfbcdikaaa", sum := "5600cb008a995cb599c8b0de9c0c6d32ccb6fff5f079d4afb0ffbf18fb2bbb9d", func := "scrinium/scriniumlaw05.CtrEnds", spec := "ctrEnds", inPlace := ["internal/abi.NoEscape"], unfollowed := true, recurses := true, apart := false }
def CtrEndsSaid : Prop := ctrEndsRow.holds Try.pinned (OpenSpec.ofChange ctrEndsSpec)

/-- ITS FALSE NEIGHBOUR: 'it returns false'. Refute it at one input. -/
def ctrEndsWrong : ChangeSpec := { name := "ctrEnds", fn := fun _ => fun
  | [d1, d2, d3] => { results := [.lit (.bool false)], args := [d1, d2, d3] }
  | _ => none }
def CtrEndsWrongFalsely : Prop := ctrEndsRow.holds Try.pinned (OpenSpec.ofChange ctrEndsWrong)

/-- 'scriniumlaw05.CtrTwo': WHATEVER THE INPUT: true; the input reads as it did. -/
def ctrTwoSpec : ChangeSpec := { name := "ctrTwo", fn := fun _ => fun
  | [d1, d2, d3, d4, d5, d6, d7] => { results := [.lit (.bool true)], args := [d1, d2, d3, d4, d5, d6, d7] }
  | _ => none }
def ctrTwoRow : OpenClaim := { program := "ythglecfbcdikaaa", sum := "5600cb008a995cb599c8b0de9c0c6d32ccb6fff5f079d4afb0ffbf18fb2bbb9d", func := "scrinium/scriniumlaw05.CtrTwo", spec := "ctrTwo", inPlace := ["internal/abi.NoEscape"], unfollowed := true, recurses := true, apart := false }
def CtrTwoSaid : Prop := ctrTwoRow.holds Try.pinned (OpenSpec.ofChange ctrTwoSpec)

/-- ITS FALSE NEIGHBOUR: 'it returns false'. Refute it at one input. -/
def ctrTwoWrong : ChangeSpec := { name := "ctrTwo", fn := fun _ => fun
  | [d1, d2, d3, d4, d5, d6, d7] => { results := [.lit (.bool false)], args := [d1, d2, d3, d4, d5, d6, d7] }
  | _ => none }
def CtrTwoWrongFalsely : Prop := ctrTwoRow.holds Try.pinned (OpenSpec.ofChange ctrTwoWrong)

/- THE SECOND FORM. 'bulk': how many values and letters a reading holds, each counted each time it is reached (what is shared counts as often as it is met; a slice's spare places count too). A statement '..UptoSaid' is the law's where the arguments, and the package variables that the reading takes, are together of bulk at most 1048576: NARROWER than '..Said'. Prove '..Said' where nothing that the law and all that it calls make is longer than what came in: it says more and counts as full. Else prove '..UptoSaid'. A law counts once. -/
mutual
def uptoBulk {H : Type} : DataW H → Nat
  | .lit (.string bytes) => bytes.length + 1
  | .lit _ => 1
  | .nil => 1
  | .ptr d => uptoBulk d + 1
  | .slice elems spare => uptoBulkAll elems + uptoBulkAll spare + 1
  | .agg parts => uptoBulkAll parts + 1
  | .iface _ d => uptoBulk d + 1
  | .map entries => uptoBulkEntries entries + 1
  | .held _ => 1
def uptoBulkAll {H : Type} : List (DataW H) → Nat
  | [] => 0
  | d :: r => uptoBulk d + uptoBulkAll r
def uptoBulkEntries {H : Type} : List (Lit × DataW H) → Nat
  | [] => 0
  | x :: r => uptoBulkEntry x + uptoBulkEntries r
def uptoBulkEntry {H : Type} : Lit × DataW H → Nat
  | (.string bytes, d) => bytes.length + uptoBulk d + 1
  | (_, d) => uptoBulk d + 1
 end
def uptoSmall : (H : Type) → List (DataW H) → Bool := fun _ ds => decide (uptoBulkAll ds ≤ 1048576)
def OpenSpec.upto (s : _root_.Go.ChangeSpec) : _root_.Go.OpenSpec := { _root_.Go.OpenSpec.ofChange s with cond := some uptoSmall }

/-- 'scriniumlaw05.CtrTells', WHERE WHAT IT READS IS OF BULK AT MOST 1048576: true; the input reads as it did. -/
def ctrTellsUptoRow : OpenClaim := { program := "ythglecfbcdikaaa", sum := "5600cb008a995cb599c8b0de9c0c6d32ccb6fff5f079d4afb0ffbf18fb2bbb9d", func := "scrinium/scriniumlaw05.CtrTells", spec := "ctrTells", inPlace := ["internal/abi.NoEscape"], unfollowed := true, recurses := true, apart := false, narrowed := true }
def CtrTellsUptoSaid : Prop := ctrTellsUptoRow.holds Try.pinned (OpenSpec.upto ctrTellsSpec)

/-- 'scriniumlaw05.CtrBack', WHERE WHAT IT READS IS OF BULK AT MOST 1048576: true; the input reads as it did. -/
def ctrBackUptoRow : OpenClaim := { program := "ythglecfbcdikaaa", sum := "5600cb008a995cb599c8b0de9c0c6d32ccb6fff5f079d4afb0ffbf18fb2bbb9d", func := "scrinium/scriniumlaw05.CtrBack", spec := "ctrBack", inPlace := ["internal/abi.NoEscape"], unfollowed := true, recurses := true, apart := false, narrowed := true }
def CtrBackUptoSaid : Prop := ctrBackUptoRow.holds Try.pinned (OpenSpec.upto ctrBackSpec)

/-- 'scriniumlaw05.CtrEnds', WHERE WHAT IT READS IS OF BULK AT MOST 1048576: true; the input reads as it did. -/
def ctrEndsUptoRow : OpenClaim := { program := "ythglecfbcdikaaa", sum := "5600cb008a995cb599c8b0de9c0c6d32ccb6fff5f079d4afb0ffbf18fb2bbb9d", func := "scrinium/scriniumlaw05.CtrEnds", spec := "ctrEnds", inPlace := ["internal/abi.NoEscape"], unfollowed := true, recurses := true, apart := false, narrowed := true }
def CtrEndsUptoSaid : Prop := ctrEndsUptoRow.holds Try.pinned (OpenSpec.upto ctrEndsSpec)

/-- 'scriniumlaw05.CtrTwo', WHERE WHAT IT READS IS OF BULK AT MOST 1048576: true; the input reads as it did. -/
def ctrTwoUptoRow : OpenClaim := { program := "ythglecfbcdikaaa", sum := "5600cb008a995cb599c8b0de9c0c6d32ccb6fff5f079d4afb0ffbf18fb2bbb9d", func := "scrinium/scriniumlaw05.CtrTwo", spec := "ctrTwo", inPlace := ["internal/abi.NoEscape"], unfollowed := true, recurses := true, apart := false, narrowed := true }
def CtrTwoUptoSaid : Prop := ctrTwoUptoRow.holds Try.pinned (OpenSpec.upto ctrTwoSpec)

end Rows
end Go.Proofs.Ythglecfbcdikaaa
