/-
  EdgeSorts answers true whatever edges it is given, and leaves all that lay in memory as it lay. No conditions.
-/
import Derived.Test.YtpoefcpgcojppaaZ0
import Derived.Test.YtpoefcpgcojppaaZ1
import Derived.Test.YtpoefcpgcojppaaZ2
import Derived.Test.YtpoefcpgcojppaaZ3
import Derived.Test.YtpoefcpgcojppaaZ4
import Derived.Test.YtpoefcpgcojppaaZ5
import Derived.Test.YtpoefcpgcojppaaZ6
import Derived.Test.YtpoefcpgcojppaaZ7
import Derived.Test.YtpoefcpgcojppaaZ8
import Derived.Test.YtpoefcpgcojppaaZ9
import Derived.Test.YtpoefcpgcojppaaZ10
import Derived.Test.YtpoefcpgcojppaaRows
import Derived.Test.YtpoefcpgcojppaaChecked
namespace Go.Proofs.Ytpoefcpgcojppaa.edgeSorts
open Go.ChangeShapes Go.WideShapes Go.ChangeAt Go.RowKit
set_option linter.unusedVariables false

set_option maxRecDepth 100000 in
theorem lifted (os : Os) (started : os.Started) (H : Type) (enc : TypeId × Value → H) :
    ReturnsInHanded {} Try.checked os 5 .any (Rows.edgeSortsSpec.pre6 enc Try.prog Try.f5 Rows.edgeSortsRow.domain false) (Rows.edgeSortsSpec.post enc Try.prog Try.f5 false true false false) := by
  refine returnsInHanded_of_change_sized (C := Try.checked) own started (by kernel_rfl) Try.func5
    (ChangeSpec.witness6 (enc := enc) (C := Try.checked) false ⟨#[], #[.slice none 0 0], []⟩ 8 (by kernel_rfl) (by kernel_rfl) (by kernel_rfl) (by kernel_rfl)) ?_
  intro W base args ds gs before hval0 hW hcnd hsz _
  have hval : ∀ (j : Nat) t v, Try.f5.params[j]? = some t → args[j]? = some v → Value.okWide Try.prog W .any base t v := hval0
  have hW' := hW
  obtain ⟨p, q, hA0, hV, rfl, hfz, hnd⟩ := hW
  have hA : DataW.TrodAll enc Try.prog W 0 (fun _ => true) true Try.f5.params.toList args.toList ds p := hA0
  rw [Try.params5] at hA hval
  obtain ⟨v2, vs2, d2, ds2, p2, q2, hargs, rfl, rfl, h2, r2⟩ := trodAll_cons hA
  obtain ⟨rfl, rfl, rfl⟩ := trodAll_nil r2
  obtain rfl : args = #[v2] := by cases args; simp_all
  obtain ⟨rfl, rfl⟩ := trodVars_none hV
  have hr := reachBytes_lt
  obtain ⟨a2, len, cap, rfl⟩ := okWide_slice Try.underlying26 (hval 0 26 v2 rfl rfl)
  obtain ⟨fuel, hf⟩ := h2
  obtain ⟨l, hb2, hs2⟩ := open_edges (by simpa [Value.cells] using hf)
  have hz2 := hs2 (fun n hn => by
    have h1 := List.all_eq_true.1 hsz n (DataW.weights_mem_each (j := 0) (t := 26) rfl rfl n hn)
    simpa using h1)
  have hlt : ∀ x ∈ (p2 ++ []) ++ [], x.block < W.heap.size := fun x hx => hW'.lt x (by simpa using hx)
  refine (sorts_any hb2 (by omega) (fun p hp => by have := (hz2.2 p hp).2.2.2.1; omega)).mono fun e W' ⟨he, hg⟩ => ?_
  subst he
  exact ⟨_, rfl, post_read hW' (fun _ _ _ => (trodAll_cons_mk (shut_bool Try.underlying4 _) trodAll_mk0))
    (trodAll_cons_mk (Below.trod laidB read26 lt26 ⟨fuel, hf⟩ hg (fun x hx => hlt x (by simp [hx]))) trodAll_mk0) rfl (by simp) hg⟩

theorem over : Rows.edgeSortsRow.holds Try.pinned (OpenSpec.ofChange Rows.edgeSortsSpec) :=
  OpenClaim.holds_of_wide 5 Try.f5 rfl rfl rfl rfl rfl rfl rfl ⟨rfl, rfl, rfl, rfl, rfl⟩ rfl rfl rfl rfl rfl (by kernel_rfl) Try.func5 (by kernel_rfl)
    (of_decide_eq_true (by kernel_rfl)) (by unfold Func.isWrapper; first | (rw [if_pos (by decide +kernel)]; kernel_rfl) | (rw [if_neg (by decide +kernel)]; exact ⟨rfl, rfl⟩))
    (fun os started H enc _ => lifted os started H enc)

/-- the statement -/
theorem proved : Rows.EdgeSortsSaid :=
  over
#print axioms proved
end Go.Proofs.Ytpoefcpgcojppaa.edgeSorts
