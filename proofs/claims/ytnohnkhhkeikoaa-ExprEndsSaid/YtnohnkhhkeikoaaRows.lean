/-
  NARROWER THAN 'FOR EVERY INPUT', by the rows' own cells (each row's printed sentence says how): ExprDoes: loops · ExprMeans: loops · ExprKnows: loops.
  DERIVED. THE GIVEN ROWS OF THIS SEAT. 4 by the template 'for every input the law returns true; each argument reads behind the call as it read before'; 0 by the template 'total and deterministic' (their statements: YtnohnkhhkeikoaaTotals.lean).
  GIVEN WITH THE SEED: the statements are not yours to turn. If you find one false, say at which input.
  Laid BY PROGRAM, IN A SANDBOX (cutbox-rows.mjs): the forced cells as the released guide's own fill.sh prints them over the translation 1efe77343e58cdf2… (all of the seat's roots in one cut). By AI agents, Wed Nov 11 2026. No macro, syntax, notation, axiom, sorry.
-/
import Derived.Test.YtnohnkhhkeikoaaChecked
import GoSem.Claim
import GoSem.ClaimJoined
import GoSem.ClaimMapViews
import Derived.JoinedTies
import Derived.KernelRfl
namespace Go.Proofs.Ytnohnkhhkeikoaa
/- THE CELL 'sum', in the pinned program and in every row, IS THE sha256 OF THE DUMP (.gsa) THAT YtnohnkhhkeikoaaProg.lean LOADS. Nothing in Lean hashes anything: it is a label: what it is worth is what the hold of that sum in a sandbox is worth. -/
noncomputable def Try.pinned : Pinned := { name := "ytnohnkhhkeikoaa", sum := "1efe77343e58cdf2eec75fc5bf84ec209752482b20b613a9e2f50f123a4e8c1e", checked := Try.checked }
namespace Rows
def none {H : Type} : Left H := { results := [], args := [] }

/-- 'kinescopelaw07.ExprDoes': WHATEVER THE INPUT: true; the input reads as it did. -/
def exprDoesSpec : ChangeSpec := { name := "exprDoes", fn := fun _ => fun
  | [d1, d2, d3] => { results := [.lit (.bool true)], args := [d1, d2, d3] }
  | _ => none }
def exprDoesRow : OpenClaim := { program := "ytnohnkhhkeikoaa", sum := "1efe77343e58cdf2eec75fc5bf84ec209752482b20b613a9e2f50f123a4e8c1e", func := "kinescope/kinescopelaw07.ExprDoes", spec := "exprDoes", unfollowed := true, recurses := true, loops := true, apart := false }
def ExprDoesSaid : Prop := exprDoesRow.holds Try.pinned (OpenSpec.ofChange exprDoesSpec)

/-- ITS FALSE NEIGHBOUR: 'it returns false'. Refute it at one input. -/
def exprDoesWrong : ChangeSpec := { name := "exprDoes", fn := fun _ => fun
  | [d1, d2, d3] => { results := [.lit (.bool false)], args := [d1, d2, d3] }
  | _ => none }
def ExprDoesWrongFalsely : Prop := exprDoesRow.holds Try.pinned (OpenSpec.ofChange exprDoesWrong)

/-- 'kinescopelaw07.ExprEnds': WHATEVER THE INPUT: true; the input reads as it did. -/
def exprEndsSpec : ChangeSpec := { name := "exprEnds", fn := fun _ => fun
  | [] => { results := [.lit (.bool true)], args := [] }
  | _ => none }
def exprEndsRow : OpenClaim := { program := "ytnohnkhhkeikoaa", sum := "1efe77343e58cdf2eec75fc5bf84ec209752482b20b613a9e2f50f123a4e8c1e", func := "kinescope/kinescopelaw07.ExprEnds", spec := "exprEnds", unfollowed := true, recurses := true, apart := false }
def ExprEndsSaid : Prop := exprEndsRow.holds Try.pinned (OpenSpec.ofChange exprEndsSpec)

/-- ITS FALSE NEIGHBOUR: 'it returns false'. Refute it at one input. -/
def exprEndsWrong : ChangeSpec := { name := "exprEnds", fn := fun _ => fun
  | [] => { results := [.lit (.bool false)], args := [] }
  | _ => none }
def ExprEndsWrongFalsely : Prop := exprEndsRow.holds Try.pinned (OpenSpec.ofChange exprEndsWrong)

/-- 'kinescopelaw07.ExprMeans': WHATEVER THE INPUT: true; the input reads as it did. -/
def exprMeansSpec : ChangeSpec := { name := "exprMeans", fn := fun _ => fun
  | [d1, d2, d3] => { results := [.lit (.bool true)], args := [d1, d2, d3] }
  | _ => none }
def exprMeansRow : OpenClaim := { program := "ytnohnkhhkeikoaa", sum := "1efe77343e58cdf2eec75fc5bf84ec209752482b20b613a9e2f50f123a4e8c1e", func := "kinescope/kinescopelaw07.ExprMeans", spec := "exprMeans", unfollowed := true, recurses := true, loops := true, apart := false }
def ExprMeansSaid : Prop := exprMeansRow.holds Try.pinned (OpenSpec.ofChange exprMeansSpec)

/-- ITS FALSE NEIGHBOUR: 'it returns false'. Refute it at one input. -/
def exprMeansWrong : ChangeSpec := { name := "exprMeans", fn := fun _ => fun
  | [d1, d2, d3] => { results := [.lit (.bool false)], args := [d1, d2, d3] }
  | _ => none }
def ExprMeansWrongFalsely : Prop := exprMeansRow.holds Try.pinned (OpenSpec.ofChange exprMeansWrong)

/-- 'kinescopelaw07.ExprKnows': WHATEVER THE INPUT: true; the input reads as it did. -/
def exprKnowsSpec : ChangeSpec := { name := "exprKnows", fn := fun _ => fun
  | [d1, d2, d3] => { results := [.lit (.bool true)], args := [d1, d2, d3] }
  | _ => none }
def exprKnowsRow : OpenClaim := { program := "ytnohnkhhkeikoaa", sum := "1efe77343e58cdf2eec75fc5bf84ec209752482b20b613a9e2f50f123a4e8c1e", func := "kinescope/kinescopelaw07.ExprKnows", spec := "exprKnows", unfollowed := true, recurses := true, loops := true, apart := false }
def ExprKnowsSaid : Prop := exprKnowsRow.holds Try.pinned (OpenSpec.ofChange exprKnowsSpec)

/-- ITS FALSE NEIGHBOUR: 'it returns false'. Refute it at one input. -/
def exprKnowsWrong : ChangeSpec := { name := "exprKnows", fn := fun _ => fun
  | [d1, d2, d3] => { results := [.lit (.bool false)], args := [d1, d2, d3] }
  | _ => none }
def ExprKnowsWrongFalsely : Prop := exprKnowsRow.holds Try.pinned (OpenSpec.ofChange exprKnowsWrong)

/- THE SECOND FORM. 'bulk': how many values and letters a reading holds, each counted each time it is reached (what is shared counts as often as it is met; a slice's spare places count too). A statement '..UptoSaid' is the law's where the arguments, and the package variables that the reading takes, are together of bulk at most 1048576: NARROWER than '..Said'. Prove '..Said' where nothing that the law and all that it calls make is longer than what came in: it says more and counts as full. Else prove '..UptoSaid'. A law counts once. -/
mutual
def uptoBulk {H : Type} : DataW H → Nat
  | .lit (.string bytes) => bytes.length + 1
  | .lit _ => 1
  | .nil => 1
  | .ptr d => uptoBulk d + 1
  | .slice elems spare => uptoBulkAll elems + uptoBulkAll spare + 1
  | .agg parts => uptoBulkAll parts + 1
  | .iface _ d => uptoBulk d + 1
  | .map entries => uptoBulkEntries entries + 1
  | .held _ => 1
def uptoBulkAll {H : Type} : List (DataW H) → Nat
  | [] => 0
  | d :: r => uptoBulk d + uptoBulkAll r
def uptoBulkEntries {H : Type} : List (Lit × DataW H) → Nat
  | [] => 0
  | x :: r => uptoBulkEntry x + uptoBulkEntries r
def uptoBulkEntry {H : Type} : Lit × DataW H → Nat
  | (.string bytes, d) => bytes.length + uptoBulk d + 1
  | (_, d) => uptoBulk d + 1
 end
def uptoSmall : (H : Type) → List (DataW H) → Bool := fun _ ds => decide (uptoBulkAll ds ≤ 1048576)
def OpenSpec.upto (s : _root_.Go.ChangeSpec) : _root_.Go.OpenSpec := { _root_.Go.OpenSpec.ofChange s with cond := some uptoSmall }

/-- 'kinescopelaw07.ExprDoes', WHERE WHAT IT READS IS OF BULK AT MOST 1048576: true; the input reads as it did. -/
def exprDoesUptoRow : OpenClaim := { program := "ytnohnkhhkeikoaa", sum := "1efe77343e58cdf2eec75fc5bf84ec209752482b20b613a9e2f50f123a4e8c1e", func := "kinescope/kinescopelaw07.ExprDoes", spec := "exprDoes", unfollowed := true, recurses := true, loops := true, apart := false, narrowed := true }
def ExprDoesUptoSaid : Prop := exprDoesUptoRow.holds Try.pinned (OpenSpec.upto exprDoesSpec)

/-- 'kinescopelaw07.ExprEnds', WHERE WHAT IT READS IS OF BULK AT MOST 1048576: true; the input reads as it did. -/
def exprEndsUptoRow : OpenClaim := { program := "ytnohnkhhkeikoaa", sum := "1efe77343e58cdf2eec75fc5bf84ec209752482b20b613a9e2f50f123a4e8c1e", func := "kinescope/kinescopelaw07.ExprEnds", spec := "exprEnds", unfollowed := true, recurses := true, apart := false, narrowed := true }
def ExprEndsUptoSaid : Prop := exprEndsUptoRow.holds Try.pinned (OpenSpec.upto exprEndsSpec)

/-- 'kinescopelaw07.ExprMeans', WHERE WHAT IT READS IS OF BULK AT MOST 1048576: true; the input reads as it did. -/
def exprMeansUptoRow : OpenClaim := { program := "ytnohnkhhkeikoaa", sum := "1efe77343e58cdf2eec75fc5bf84ec209752482b20b613a9e2f50f123a4e8c1e", func := "kinescope/kinescopelaw07.ExprMeans", spec := "exprMeans", unfollowed := true, recurses := true, loops := true, apart := false, narrowed := true }
def ExprMeansUptoSaid : Prop := exprMeansUptoRow.holds Try.pinned (OpenSpec.upto exprMeansSpec)

/-- 'kinescopelaw07.ExprKnows', WHERE WHAT IT READS IS OF BULK AT MOST 1048576: true; the input reads as it did. -/
def exprKnowsUptoRow : OpenClaim := { program := "ytnohnkhhkeikoaa", sum := "1efe77343e58cdf2eec75fc5bf84ec209752482b20b613a9e2f50f123a4e8c1e", func := "kinescope/kinescopelaw07.ExprKnows", spec := "exprKnows", unfollowed := true, recurses := true, loops := true, apart := false, narrowed := true }
def ExprKnowsUptoSaid : Prop := exprKnowsUptoRow.holds Try.pinned (OpenSpec.upto exprKnowsSpec)

end Rows
end Go.Proofs.Ytnohnkhhkeikoaa
