/-
  BagFirst answers true whatever row of entries it is given, and leaves all that lay in memory as it lay. No conditions.
-/
import Derived.Test.YtfcdgfjpmcapkaaGreatCI
import Derived.Test.YtfcdgfjpmcapkaaGreatRows
import Derived.Test.YtfcdgfjpmcapkaaGreatChecked
namespace Go.Proofs.YtfcdgfjpmcapkaaGreat.bagFirst
open Go.ChangeShapes Go.WideShapes Go.ChangeAt Go.RowKit
set_option linter.unusedVariables false

theorem first_walk {w : World} {v : Value} {l : List Et} (h : PE w v l) (hwe : ∀ k, k < l.length → We (ge l k)) : Calls Tryz.prog 6 #[v] w (Tr w) := by
  by_cases hl : l.length ≤ 400
  · exact first_short h hwe hl
  · exact first_long h (by omega)

/-! ### the row -/
set_option maxRecDepth 100000 in
theorem lifted (os : Os) (started : os.Started) (H : Type) (enc : TypeId × Value → H) :
    ReturnsInHanded {} Tryz.checked os 6 .any (Rows.bagFirstSpec.pre6 enc Tryz.prog Tryz.f6 Rows.bagFirstRow.domain false) (Rows.bagFirstSpec.post enc Tryz.prog Tryz.f6 false true false false) := by
  refine returnsInHanded_of_change_sized (C := Tryz.checked) own started (by kernel_rfl) Tryz.func6
    (ChangeSpec.witness6 (enc := enc) (C := Tryz.checked) false ⟨#[], #[.slice none 0 0], []⟩ 8 (by kernel_rfl) (by kernel_rfl) (by kernel_rfl) (by kernel_rfl)) ?_
  intro W base args ds gs before hval0 hW hcnd hsz _
  have hval : ∀ (j : Nat) t v, Tryz.f6.params[j]? = some t → args[j]? = some v → Value.okWide Tryz.prog W .any base t v := hval0
  have hW' := hW
  obtain ⟨p, q, hA0, hV, rfl, hfz, hnd⟩ := hW
  have hA : DataW.TrodAll enc Tryz.prog W 0 (fun _ => true) true Tryz.f6.params.toList args.toList ds p := hA0
  rw [Tryz.params6] at hA hval
  obtain ⟨v0, vs0, d0, ds0, p0, q0, hargs, rfl, rfl, h0, r0⟩ := trodAll_cons hA
  obtain ⟨rfl, rfl, rfl⟩ := trodAll_nil r0
  obtain rfl : args = #[v0] := by cases args; simp_all
  obtain ⟨rfl, rfl⟩ := trodVars_none hV
  obtain ⟨a0, len, cap, rfl⟩ := okWide_slice Tryz.underlying31 (hval 0 31 v0 rfl rfl)
  obtain ⟨fuel, hf⟩ := h0
  obtain ⟨l, hpr, hs0⟩ := open_entries (by simpa [Value.cells] using hf)
  have hw0 : ∀ n ∈ d0.weights Tryz.prog 31, n ≤ reachBytes := fun n hn => by
    have h1 := List.all_eq_true.1 hsz n (DataW.weights_mem_each (j := 0) (t := 31) rfl rfl n hn)
    simpa using h1
  obtain ⟨_, hwe⟩ := hs0 hw0
  have hlt : ∀ x ∈ p0 ++ [], x.block < W.heap.size := fun x hx => hW'.lt x (by simpa using hx)
  refine (first_walk hpr hwe).mono fun e W' ⟨he, hg⟩ => ?_
  subst he
  exact ⟨_, rfl, post_read hW' (fun _ _ _ => (trodAll_cons_mk (shut_bool Tryz.underlying4 _) trodAll_mk0))
    (trodAll_cons_mk (Below.trod laidB read31 lt31 ⟨fuel, hf⟩ hg (fun x hx => hlt x (by simpa using hx))) trodAll_mk0) rfl (by simp) hg⟩

theorem over : Rows.bagFirstRow.holds Tryz.pinned (OpenSpec.ofChange Rows.bagFirstSpec) :=
  OpenClaim.holds_of_wide 6 Tryz.f6 rfl rfl rfl rfl rfl rfl rfl ⟨rfl, rfl, rfl, rfl, rfl⟩ rfl rfl rfl rfl rfl (by kernel_rfl) Tryz.func6 (by kernel_rfl)
    (of_decide_eq_true (by kernel_rfl)) (by unfold Func.isWrapper; first | (rw [if_pos (by decide +kernel)]; kernel_rfl) | (rw [if_neg (by decide +kernel)]; exact ⟨rfl, rfl⟩))
    (fun os started H enc _ => lifted os started H enc)

/-- the statement -/
theorem proved : Rows.BagFirstSaid :=
  over
#print axioms proved
end Go.Proofs.YtfcdgfjpmcapkaaGreat.bagFirst
