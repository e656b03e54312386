/-
  No cell of these rows narrows 'for every input' (looked for: loops, veiled, ifaces, maps, wideKeys, modest, calm, conditions, laid).
  DERIVED. THE GIVEN ROWS OF THIS SEAT. 4 by the template 'for every input the law returns true; each argument reads behind the call as it read before'; 0 by the template 'total and deterministic' (their statements: YtfcdgfjpmcapkaaGreatTotals.lean).
  GIVEN WITH THE SEED: the statements are not yours to turn. If you find one false, say at which input.
  Laid BY PROGRAM, IN A SANDBOX (cutbox-rows.mjs): the forced cells as the released guide's own fill.sh prints them over the translation a60dcc06c85c5c15… (all of the seat's roots in one cut). By AI agents, Wed Nov 11 2026. No macro, syntax, notation, axiom, sorry.
-/
import Derived.Test.YtfcdgfjpmcapkaaGreatChecked
import GoSem.Claim
import GoSem.ClaimJoined
import GoSem.ClaimMapViews
import Derived.JoinedTies
import Derived.KernelRfl
namespace Go.Proofs.YtfcdgfjpmcapkaaGreat
/- THE CELL 'sum', in the pinned program and in every row, IS THE sha256 OF THE DUMP (.gsa) THAT YtfcdgfjpmcapkaaGreatProg.lean LOADS. Nothing in Lean hashes anything: it is a label: what it is worth is what the hold of that sum in a sandbox is worth. -/
noncomputable def Tryz.pinned : Pinned := { name := "ytfcdgfjpmcapkaagreat", sum := "a60dcc06c85c5c15c72e70a90b3dcc2b5f6dd0865264a1519c779560438d2a88", checked := Tryz.checked }
namespace Rows
def none {H : Type} : Left H := { results := [], args := [] }

/-- 'kinescopelaw04.BagDoes': WHATEVER THE INPUT: true; the input reads as it did. -/
def bagDoesSpec : ChangeSpec := { name := "bagDoes", fn := fun _ => fun
  | [d1, d2, d3] => { results := [.lit (.bool true)], args := [d1, d2, d3] }
  | _ => none }
def bagDoesRow : OpenClaim := { program := "ytfcdgfjpmcapkaagreat", sum := "a60dcc06c85c5c15c72e70a90b3dcc2b5f6dd0865264a1519c779560438d2a88", func := "kinescope/kinescopelaw04.BagDoes", spec := "bagDoes", inPlace := ["maps.clone"], unfollowed := true, recurses := true, apart := false }
def BagDoesSaid : Prop := bagDoesRow.holds Tryz.pinned (OpenSpec.ofChange bagDoesSpec)

/-- ITS FALSE NEIGHBOUR: 'it returns false'. Refute it at one input. -/
def bagDoesWrong : ChangeSpec := { name := "bagDoes", fn := fun _ => fun
  | [d1, d2, d3] => { results := [.lit (.bool false)], args := [d1, d2, d3] }
  | _ => none }
def BagDoesWrongFalsely : Prop := bagDoesRow.holds Tryz.pinned (OpenSpec.ofChange bagDoesWrong)

/-- 'kinescopelaw04.BagEnds': WHATEVER THE INPUT: true; the input reads as it did. -/
def bagEndsSpec : ChangeSpec := { name := "bagEnds", fn := fun _ => fun
  | [] => { results := [.lit (.bool true)], args := [] }
  | _ => none }
def bagEndsRow : OpenClaim := { program := "ytfcdgfjpmcapkaagreat", sum := "a60dcc06c85c5c15c72e70a90b3dcc2b5f6dd0865264a1519c779560438d2a88", func := "kinescope/kinescopelaw04.BagEnds", spec := "bagEnds", inPlace := ["maps.clone"], unfollowed := true, recurses := true, apart := false }
def BagEndsSaid : Prop := bagEndsRow.holds Tryz.pinned (OpenSpec.ofChange bagEndsSpec)

/-- ITS FALSE NEIGHBOUR: 'it returns false'. Refute it at one input. -/
def bagEndsWrong : ChangeSpec := { name := "bagEnds", fn := fun _ => fun
  | [] => { results := [.lit (.bool false)], args := [] }
  | _ => none }
def BagEndsWrongFalsely : Prop := bagEndsRow.holds Tryz.pinned (OpenSpec.ofChange bagEndsWrong)

/-- 'kinescopelaw04.BagCuts': WHATEVER THE INPUT: true; the input reads as it did. -/
def bagCutsSpec : ChangeSpec := { name := "bagCuts", fn := fun _ => fun
  | [d1, d2, d3, d4] => { results := [.lit (.bool true)], args := [d1, d2, d3, d4] }
  | _ => none }
def bagCutsRow : OpenClaim := { program := "ytfcdgfjpmcapkaagreat", sum := "a60dcc06c85c5c15c72e70a90b3dcc2b5f6dd0865264a1519c779560438d2a88", func := "kinescope/kinescopelaw04.BagCuts", spec := "bagCuts", inPlace := ["maps.clone"], unfollowed := true, recurses := true, apart := false }
def BagCutsSaid : Prop := bagCutsRow.holds Tryz.pinned (OpenSpec.ofChange bagCutsSpec)

/-- ITS FALSE NEIGHBOUR: 'it returns false'. Refute it at one input. -/
def bagCutsWrong : ChangeSpec := { name := "bagCuts", fn := fun _ => fun
  | [d1, d2, d3, d4] => { results := [.lit (.bool false)], args := [d1, d2, d3, d4] }
  | _ => none }
def BagCutsWrongFalsely : Prop := bagCutsRow.holds Tryz.pinned (OpenSpec.ofChange bagCutsWrong)

/-- 'kinescopelaw04.BagFirst': WHATEVER THE INPUT: true; the input reads as it did. -/
def bagFirstSpec : ChangeSpec := { name := "bagFirst", fn := fun _ => fun
  | [d] => { results := [.lit (.bool true)], args := [d] }
  | _ => none }
def bagFirstRow : OpenClaim := { program := "ytfcdgfjpmcapkaagreat", sum := "a60dcc06c85c5c15c72e70a90b3dcc2b5f6dd0865264a1519c779560438d2a88", func := "kinescope/kinescopelaw04.BagFirst", spec := "bagFirst", inPlace := ["maps.clone"], unfollowed := true, recurses := true, apart := false }
def BagFirstSaid : Prop := bagFirstRow.holds Tryz.pinned (OpenSpec.ofChange bagFirstSpec)

/-- ITS FALSE NEIGHBOUR: 'it returns false'. Refute it at one input. -/
def bagFirstWrong : ChangeSpec := { name := "bagFirst", fn := fun _ => fun
  | [d] => { results := [.lit (.bool false)], args := [d] }
  | _ => none }
def BagFirstWrongFalsely : Prop := bagFirstRow.holds Tryz.pinned (OpenSpec.ofChange bagFirstWrong)

/- THE SECOND FORM. 'bulk': how many values and letters a reading holds, each counted each time it is reached (what is shared counts as often as it is met; a slice's spare places count too). A statement '..UptoSaid' is the law's where the arguments, and the package variables that the reading takes, are together of bulk at most 1048576: NARROWER than '..Said'. Prove '..Said' where nothing that the law and all that it calls make is longer than what came in: it says more and counts as full. Else prove '..UptoSaid'. A law counts once. -/
mutual
def uptoBulk {H : Type} : DataW H → Nat
  | .lit (.string bytes) => bytes.length + 1
  | .lit _ => 1
  | .nil => 1
  | .ptr d => uptoBulk d + 1
  | .slice elems spare => uptoBulkAll elems + uptoBulkAll spare + 1
  | .agg parts => uptoBulkAll parts + 1
  | .iface _ d => uptoBulk d + 1
  | .map entries => uptoBulkEntries entries + 1
  | .held _ => 1
def uptoBulkAll {H : Type} : List (DataW H) → Nat
  | [] => 0
  | d :: r => uptoBulk d + uptoBulkAll r
def uptoBulkEntries {H : Type} : List (Lit × DataW H) → Nat
  | [] => 0
  | x :: r => uptoBulkEntry x + uptoBulkEntries r
def uptoBulkEntry {H : Type} : Lit × DataW H → Nat
  | (.string bytes, d) => bytes.length + uptoBulk d + 1
  | (_, d) => uptoBulk d + 1
 end
def uptoSmall : (H : Type) → List (DataW H) → Bool := fun _ ds => decide (uptoBulkAll ds ≤ 1048576)
def OpenSpec.upto (s : _root_.Go.ChangeSpec) : _root_.Go.OpenSpec := { _root_.Go.OpenSpec.ofChange s with cond := some uptoSmall }

/-- 'kinescopelaw04.BagDoes', WHERE WHAT IT READS IS OF BULK AT MOST 1048576: true; the input reads as it did. -/
def bagDoesUptoRow : OpenClaim := { program := "ytfcdgfjpmcapkaagreat", sum := "a60dcc06c85c5c15c72e70a90b3dcc2b5f6dd0865264a1519c779560438d2a88", func := "kinescope/kinescopelaw04.BagDoes", spec := "bagDoes", inPlace := ["maps.clone"], unfollowed := true, recurses := true, apart := false, narrowed := true }
def BagDoesUptoSaid : Prop := bagDoesUptoRow.holds Tryz.pinned (OpenSpec.upto bagDoesSpec)

/-- 'kinescopelaw04.BagEnds', WHERE WHAT IT READS IS OF BULK AT MOST 1048576: true; the input reads as it did. -/
def bagEndsUptoRow : OpenClaim := { program := "ytfcdgfjpmcapkaagreat", sum := "a60dcc06c85c5c15c72e70a90b3dcc2b5f6dd0865264a1519c779560438d2a88", func := "kinescope/kinescopelaw04.BagEnds", spec := "bagEnds", inPlace := ["maps.clone"], unfollowed := true, recurses := true, apart := false, narrowed := true }
def BagEndsUptoSaid : Prop := bagEndsUptoRow.holds Tryz.pinned (OpenSpec.upto bagEndsSpec)

/-- 'kinescopelaw04.BagCuts', WHERE WHAT IT READS IS OF BULK AT MOST 1048576: true; the input reads as it did. -/
def bagCutsUptoRow : OpenClaim := { program := "ytfcdgfjpmcapkaagreat", sum := "a60dcc06c85c5c15c72e70a90b3dcc2b5f6dd0865264a1519c779560438d2a88", func := "kinescope/kinescopelaw04.BagCuts", spec := "bagCuts", inPlace := ["maps.clone"], unfollowed := true, recurses := true, apart := false, narrowed := true }
def BagCutsUptoSaid : Prop := bagCutsUptoRow.holds Tryz.pinned (OpenSpec.upto bagCutsSpec)

/-- 'kinescopelaw04.BagFirst', WHERE WHAT IT READS IS OF BULK AT MOST 1048576: true; the input reads as it did. -/
def bagFirstUptoRow : OpenClaim := { program := "ytfcdgfjpmcapkaagreat", sum := "a60dcc06c85c5c15c72e70a90b3dcc2b5f6dd0865264a1519c779560438d2a88", func := "kinescope/kinescopelaw04.BagFirst", spec := "bagFirst", inPlace := ["maps.clone"], unfollowed := true, recurses := true, apart := false, narrowed := true }
def BagFirstUptoSaid : Prop := bagFirstUptoRow.holds Tryz.pinned (OpenSpec.upto bagFirstSpec)

end Rows
end Go.Proofs.YtfcdgfjpmcapkaaGreat
