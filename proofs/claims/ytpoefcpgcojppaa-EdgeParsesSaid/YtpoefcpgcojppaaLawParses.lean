/-
  EdgeParses answers true whatever bytes it is given, and leaves all that lay in memory as it lay. No conditions.
-/
import Derived.Test.YtpoefcpgcojppaaRD
import Derived.Test.YtpoefcpgcojppaaQD
import Derived.Test.YtpoefcpgcojppaaRows
import Derived.Test.YtpoefcpgcojppaaChecked
namespace Go.Proofs.Ytpoefcpgcojppaa.edgeParses
open Go.ChangeShapes Go.WideShapes Go.ChangeAt Go.RowKit
set_option linter.unusedVariables false

set_option maxRecDepth 100000 in
theorem lifted (os : Os) (started : os.Started) (H : Type) (enc : TypeId × Value → H) :
    ReturnsInHanded {} Try.checked os 4 .any (Rows.edgeParsesSpec.pre6 enc Try.prog Try.f4 Rows.edgeParsesRow.domain false) (Rows.edgeParsesSpec.post enc Try.prog Try.f4 false true false false) := by
  refine returnsInHanded_of_change_sized (C := Try.checked) own started (by kernel_rfl) Try.func4
    (ChangeSpec.witness6 (enc := enc) (C := Try.checked) false ⟨#[], #[.slice none 0 0], []⟩ 8 (by kernel_rfl) (by kernel_rfl) (by kernel_rfl) (by kernel_rfl)) ?_
  intro W base args ds gs before hval0 hW hcnd hsz _
  have hval : ∀ (j : Nat) t v, Try.f4.params[j]? = some t → args[j]? = some v → Value.okWide Try.prog W .any base t v := hval0
  have hW' := hW
  obtain ⟨p, q, hA0, hV, rfl, hfz, hnd⟩ := hW
  have hA : DataW.TrodAll enc Try.prog W 0 (fun _ => true) true Try.f4.params.toList args.toList ds p := hA0
  rw [Try.params4] at hA hval
  obtain ⟨v2, vs2, d2, ds2, p2, q2, hargs, rfl, rfl, h2, r2⟩ := trodAll_cons hA
  obtain ⟨rfl, rfl, rfl⟩ := trodAll_nil r2
  obtain rfl : args = #[v2] := by cases args; simp_all
  obtain ⟨rfl, rfl⟩ := trodVars_none hV
  have hr := reachBytes_lt
  obtain ⟨a2, len, cap, rfl⟩ := okWide_slice Try.underlying34 (hval 0 34 v2 rfl rfl)
  obtain ⟨fuel, hf⟩ := h2
  obtain ⟨l, hb2, hc2, hs2⟩ := open_bytes (by simpa [Value.cells] using hf)
  have hz2 := hs2 (fun n hn => by
    have h1 := List.all_eq_true.1 hsz n (DataW.weights_mem_each (j := 0) (t := 34) rfl rfl n hn)
    simpa using h1)
  have hlt : ∀ x ∈ (p2 ++ []) ++ [], x.block < W.heap.size := fun x hx => hW'.lt x (by simpa using hx)
  refine (parses_any hb2 hc2 (by omega)).mono fun e W' ⟨he, hg⟩ => ?_
  subst he
  exact ⟨_, rfl, post_read hW' (fun _ _ _ => (trodAll_cons_mk (shut_bool Try.underlying4 _) trodAll_mk0))
    (trodAll_cons_mk (Below.trod laidB read34 lt34 ⟨fuel, hf⟩ hg (fun x hx => hlt x (by simp [hx]))) trodAll_mk0) rfl (by simp) hg⟩

theorem over : Rows.edgeParsesRow.holds Try.pinned (OpenSpec.ofChange Rows.edgeParsesSpec) :=
  OpenClaim.holds_of_wide 4 Try.f4 rfl rfl rfl rfl rfl rfl rfl ⟨rfl, rfl, rfl, rfl, rfl⟩ rfl rfl rfl rfl rfl (by kernel_rfl) Try.func4 (by kernel_rfl)
    (of_decide_eq_true (by kernel_rfl)) (by unfold Func.isWrapper; first | (rw [if_pos (by decide +kernel)]; kernel_rfl) | (rw [if_neg (by decide +kernel)]; exact ⟨rfl, rfl⟩))
    (fun os started H enc _ => lifted os started H enc)

/-- the statement -/
theorem proved : Rows.EdgeParsesSaid :=
  over
#print axioms proved
end Go.Proofs.Ytpoefcpgcojppaa.edgeParses
