/-
  No cell of these rows narrows 'for every input' (looked for: loops, veiled, ifaces, maps, wideKeys, modest, calm, conditions, laid).
  DERIVED. THE GIVEN ROWS OF THIS SEAT. 4 by the template 'for every input the law returns true; each argument reads behind the call as it read before'; 0 by the template 'total and deterministic' (their statements: YtadincbeimfakaaTotals.lean).
  GIVEN WITH THE SEED: the statements are not yours to turn. If you find one false, say at which input.
  Laid BY PROGRAM, IN A SANDBOX (cutbox-rows.mjs): the forced cells as the released guide's own fill.sh prints them over the translation 7282eb178f876542… (all of the seat's roots in one cut). By AI agents, Wed Nov 11 2026. No macro, syntax, notation, axiom, sorry.
-/
import Derived.Test.YtadincbeimfakaaChecked
import GoSem.Claim
import GoSem.ClaimJoined
import GoSem.ClaimMapViews
import Derived.JoinedTies
import Derived.KernelRfl
namespace Go.Proofs.Ytadincbeimfakaa
/- THE CELL 'sum', in the pinned program and in every row, IS THE sha256 OF THE DUMP (.gsa) THAT YtadincbeimfakaaProg.lean LOADS. Nothing in Lean hashes anything: it is a label: what it is worth is what the hold of that sum in a sandbox is worth. -/
noncomputable def Try.pinned : Pinned := { name := "ytadincbeimfakaa", sum := "7282eb178f876542edd6b318030775c426c7aaa3222c4edb60a3a22fb06535da", checked := Try.checked }
namespace Rows
def none {H : Type} : Left H := { results := [], args := [] }

/-- 'scriniumlaw06.ShareSplits': WHATEVER THE INPUT: true; the input reads as it did. -/
def shareSplitsSpec : ChangeSpec := { name := "shareSplits", fn := fun _ => fun
  | [d1, d2, d3, d4] => { results := [.lit (.bool true)], args := [d1, d2, d3, d4] }
  | _ => none }
def shareSplitsRow : OpenClaim := { program := "ytadincbeimfakaa", sum := "7282eb178f876542edd6b318030775c426c7aaa3222c4edb60a3a22fb06535da", func := "scrinium/scriniumlaw06.ShareSplits", spec := "shareSplits", apart := false }
def ShareSplitsSaid : Prop := shareSplitsRow.holds Try.pinned (OpenSpec.ofChange shareSplitsSpec)

/-- ITS FALSE NEIGHBOUR: 'it returns false'. Refute it at one input. -/
def shareSplitsWrong : ChangeSpec := { name := "shareSplits", fn := fun _ => fun
  | [d1, d2, d3, d4] => { results := [.lit (.bool false)], args := [d1, d2, d3, d4] }
  | _ => none }
def ShareSplitsWrongFalsely : Prop := shareSplitsRow.holds Try.pinned (OpenSpec.ofChange shareSplitsWrong)

/-- 'scriniumlaw06.ShareGathers': WHATEVER THE INPUT: true; the input reads as it did. -/
def shareGathersSpec : ChangeSpec := { name := "shareGathers", fn := fun _ => fun
  | [d1, d2] => { results := [.lit (.bool true)], args := [d1, d2] }
  | _ => none }
def shareGathersRow : OpenClaim := { program := "ytadincbeimfakaa", sum := "7282eb178f876542edd6b318030775c426c7aaa3222c4edb60a3a22fb06535da", func := "scrinium/scriniumlaw06.ShareGathers", spec := "shareGathers", apart := false }
def ShareGathersSaid : Prop := shareGathersRow.holds Try.pinned (OpenSpec.ofChange shareGathersSpec)

/-- ITS FALSE NEIGHBOUR: 'it returns false'. Refute it at one input. -/
def shareGathersWrong : ChangeSpec := { name := "shareGathers", fn := fun _ => fun
  | [d1, d2] => { results := [.lit (.bool false)], args := [d1, d2] }
  | _ => none }
def ShareGathersWrongFalsely : Prop := shareGathersRow.holds Try.pinned (OpenSpec.ofChange shareGathersWrong)

/-- 'scriniumlaw06.ShareAll': WHATEVER THE INPUT: true; the input reads as it did. -/
def shareAllSpec : ChangeSpec := { name := "shareAll", fn := fun _ => fun
  | [d1, d2, d3, d4] => { results := [.lit (.bool true)], args := [d1, d2, d3, d4] }
  | _ => none }
def shareAllRow : OpenClaim := { program := "ytadincbeimfakaa", sum := "7282eb178f876542edd6b318030775c426c7aaa3222c4edb60a3a22fb06535da", func := "scrinium/scriniumlaw06.ShareAll", spec := "shareAll", apart := false }
def ShareAllSaid : Prop := shareAllRow.holds Try.pinned (OpenSpec.ofChange shareAllSpec)

/-- ITS FALSE NEIGHBOUR: 'it returns false'. Refute it at one input. -/
def shareAllWrong : ChangeSpec := { name := "shareAll", fn := fun _ => fun
  | [d1, d2, d3, d4] => { results := [.lit (.bool false)], args := [d1, d2, d3, d4] }
  | _ => none }
def ShareAllWrongFalsely : Prop := shareAllRow.holds Try.pinned (OpenSpec.ofChange shareAllWrong)

/-- 'scriniumlaw06.ShareReads': WHATEVER THE INPUT: true; the input reads as it did. -/
def shareReadsSpec : ChangeSpec := { name := "shareReads", fn := fun _ => fun
  | [d1, d2] => { results := [.lit (.bool true)], args := [d1, d2] }
  | _ => none }
def shareReadsRow : OpenClaim := { program := "ytadincbeimfakaa", sum := "7282eb178f876542edd6b318030775c426c7aaa3222c4edb60a3a22fb06535da", func := "scrinium/scriniumlaw06.ShareReads", spec := "shareReads", apart := false }
def ShareReadsSaid : Prop := shareReadsRow.holds Try.pinned (OpenSpec.ofChange shareReadsSpec)

/-- ITS FALSE NEIGHBOUR: 'it returns false'. Refute it at one input. -/
def shareReadsWrong : ChangeSpec := { name := "shareReads", fn := fun _ => fun
  | [d1, d2] => { results := [.lit (.bool false)], args := [d1, d2] }
  | _ => none }
def ShareReadsWrongFalsely : Prop := shareReadsRow.holds Try.pinned (OpenSpec.ofChange shareReadsWrong)

/- THE SECOND FORM. 'bulk': how many values and letters a reading holds, each counted each time it is reached (what is shared counts as often as it is met; a slice's spare places count too). A statement '..UptoSaid' is the law's where the arguments, and the package variables that the reading takes, are together of bulk at most 1048576: NARROWER than '..Said'. Prove '..Said' where nothing that the law and all that it calls make is longer than what came in: it says more and counts as full. Else prove '..UptoSaid'. A law counts once. -/
mutual
def uptoBulk {H : Type} : DataW H → Nat
  | .lit (.string bytes) => bytes.length + 1
  | .lit _ => 1
  | .nil => 1
  | .ptr d => uptoBulk d + 1
  | .slice elems spare => uptoBulkAll elems + uptoBulkAll spare + 1
  | .agg parts => uptoBulkAll parts + 1
  | .iface _ d => uptoBulk d + 1
  | .map entries => uptoBulkEntries entries + 1
  | .held _ => 1
def uptoBulkAll {H : Type} : List (DataW H) → Nat
  | [] => 0
  | d :: r => uptoBulk d + uptoBulkAll r
def uptoBulkEntries {H : Type} : List (Lit × DataW H) → Nat
  | [] => 0
  | x :: r => uptoBulkEntry x + uptoBulkEntries r
def uptoBulkEntry {H : Type} : Lit × DataW H → Nat
  | (.string bytes, d) => bytes.length + uptoBulk d + 1
  | (_, d) => uptoBulk d + 1
 end
def uptoSmall : (H : Type) → List (DataW H) → Bool := fun _ ds => decide (uptoBulkAll ds ≤ 1048576)
def OpenSpec.upto (s : _root_.Go.ChangeSpec) : _root_.Go.OpenSpec := { _root_.Go.OpenSpec.ofChange s with cond := some uptoSmall }

/-- 'scriniumlaw06.ShareSplits', WHERE WHAT IT READS IS OF BULK AT MOST 1048576: true; the input reads as it did. -/
def shareSplitsUptoRow : OpenClaim := { program := "ytadincbeimfakaa", sum := "7282eb178f876542edd6b318030775c426c7aaa3222c4edb60a3a22fb06535da", func := "scrinium/scriniumlaw06.ShareSplits", spec := "shareSplits", apart := false, narrowed := true }
def ShareSplitsUptoSaid : Prop := shareSplitsUptoRow.holds Try.pinned (OpenSpec.upto shareSplitsSpec)

/-- 'scriniumlaw06.ShareGathers', WHERE WHAT IT READS IS OF BULK AT MOST 1048576: true; the input reads as it did. -/
def shareGathersUptoRow : OpenClaim := { program := "ytadincbeimfakaa", sum := "7282eb178f876542edd6b318030775c426c7aaa3222c4edb60a3a22fb06535da", func := "scrinium/scriniumlaw06.ShareGathers", spec := "shareGathers", apart := false, narrowed := true }
def ShareGathersUptoSaid : Prop := shareGathersUptoRow.holds Try.pinned (OpenSpec.upto shareGathersSpec)

/-- 'scriniumlaw06.ShareAll', WHERE WHAT IT READS IS OF BULK AT MOST 1048576: true; the input reads as it did. -/
def shareAllUptoRow : OpenClaim := { program := "ytadincbeimfakaa", sum := "7282eb178f876542edd6b318030775c426c7aaa3222c4edb60a3a22fb06535da", func := "scrinium/scriniumlaw06.ShareAll", spec := "shareAll", apart := false, narrowed := true }
def ShareAllUptoSaid : Prop := shareAllUptoRow.holds Try.pinned (OpenSpec.upto shareAllSpec)

/-- 'scriniumlaw06.ShareReads', WHERE WHAT IT READS IS OF BULK AT MOST 1048576: true; the input reads as it did. -/
def shareReadsUptoRow : OpenClaim := { program := "ytadincbeimfakaa", sum := "7282eb178f876542edd6b318030775c426c7aaa3222c4edb60a3a22fb06535da", func := "scrinium/scriniumlaw06.ShareReads", spec := "shareReads", apart := false, narrowed := true }
def ShareReadsUptoSaid : Prop := shareReadsUptoRow.holds Try.pinned (OpenSpec.upto shareReadsSpec)

end Rows
end Go.Proofs.Ytadincbeimfakaa
