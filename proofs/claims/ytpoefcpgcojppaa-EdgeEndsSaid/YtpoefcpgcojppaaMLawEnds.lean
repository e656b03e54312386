/-
  EdgeEnds answers true: the closed statement over a good edge, names and times about their ends, edges that are changed, bytes that are cut off or changed; and leaves all that lay in memory as it lay. No conditions.
-/
import Derived.Test.YtpoefcpgcojppaaM0
import Derived.Test.YtpoefcpgcojppaaM1
import Derived.Test.YtpoefcpgcojppaaM2
import Derived.Test.YtpoefcpgcojppaaM3
import Derived.Test.YtpoefcpgcojppaaM4
import Derived.Test.YtpoefcpgcojppaaM5
import Derived.Test.YtpoefcpgcojppaaM6
import Derived.Test.YtpoefcpgcojppaaM7
import Derived.Test.YtpoefcpgcojppaaM8
import Derived.Test.YtpoefcpgcojppaaM9
import Derived.Test.YtpoefcpgcojppaaM10
import Derived.Test.YtpoefcpgcojppaaM11
import Derived.Test.YtpoefcpgcojppaaM12
import Derived.Test.YtpoefcpgcojppaaRows
import Derived.Test.YtpoefcpgcojppaaChecked
set_option linter.unusedSimpArgs false
namespace Go.Proofs.Ytpoefcpgcojppaa.edgeEnds
open Go.ChangeShapes Go.WideShapes Go.ChangeAt Go.RowKit Go.Deep Go.Joins
set_option linter.unusedVariables false

set_option maxRecDepth 100000 in
theorem lifted (os : Os) (started : os.Started) (H : Type) (enc : TypeId × Value → H) :
    ReturnsInHanded {} Try.checked os 6 .any (Rows.edgeEndsSpec.pre6 enc Try.prog Try.f6 Rows.edgeEndsRow.domain false) (Rows.edgeEndsSpec.post enc Try.prog Try.f6 false true false false) := by
  refine returnsInHanded_of_change_sized (C := Try.checked) own started (by kernel_rfl) Try.func6
    (ChangeSpec.witness6 (enc := enc) (C := Try.checked) false ⟨#[], #[], []⟩ 8 (by kernel_rfl) (by kernel_rfl) (by kernel_rfl) (by kernel_rfl)) ?_
  intro W base args ds gs before hval0 hW hcnd hsz _
  have hW' := hW
  obtain ⟨p, q, hA0, hV, rfl, hfz, hnd⟩ := hW
  have hA : DataW.TrodAll enc Try.prog W 0 (fun _ => true) true Try.f6.params.toList args.toList ds p := hA0
  rw [Try.params6] at hA
  obtain ⟨rfl, rfl, rfl⟩ := trodAll_none hA
  obtain ⟨rfl, rfl⟩ := trodVars_none hV
  clear hA0 hval0 hsz
  refine (ends_any W).mono fun e W' ⟨he, hg⟩ => ?_
  subst he
  exact ⟨_, rfl, post_read hW' (fun _ _ _ => (trodAll_cons_mk (shut_bool Try.underlying4 _) trodAll_mk0))
    trodAll_mk0 rfl (by simp) hg⟩

theorem over : Rows.edgeEndsRow.holds Try.pinned (OpenSpec.ofChange Rows.edgeEndsSpec) :=
  OpenClaim.holds_of_wide 6 Try.f6 rfl rfl rfl rfl rfl rfl rfl ⟨rfl, rfl, rfl, rfl, rfl⟩ rfl rfl rfl rfl rfl (by kernel_rfl) Try.func6 (by kernel_rfl)
    (of_decide_eq_true (by kernel_rfl)) (by unfold Func.isWrapper; first | (rw [if_pos (by decide +kernel)]; kernel_rfl) | (rw [if_neg (by decide +kernel)]; exact ⟨rfl, rfl⟩))
    (fun os started H enc _ => lifted os started H enc)

/-- the statement -/
theorem proved : Rows.EdgeEndsSaid :=
  over
#print axioms proved
end Go.Proofs.Ytpoefcpgcojppaa.edgeEnds
