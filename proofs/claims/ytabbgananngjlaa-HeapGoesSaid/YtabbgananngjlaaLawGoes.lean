/-
  HeapGoes answers true whatever row of items, key and item it is given, and leaves all that lay in memory as it lay. No conditions.
-/
import Derived.Test.YtabbgananngjlaaW
import Derived.Test.YtabbgananngjlaaU
import Derived.Test.YtabbgananngjlaaRows
import Derived.Test.YtabbgananngjlaaChecked
namespace Go.Proofs.Ytabbgananngjlaa.heapGoes
open Go.ChangeShapes Go.WideShapes Go.ChangeAt Go.RowKit Go.Joins
set_option linter.unusedVariables false

theorem read40 : Try.prog.readableRec 40 = true := by kernel_rfl
theorem lt40 : 40 < Try.prog.types.size := of_decide_eq_true (by kernel_rfl)

/-! ### the row -/
set_option maxRecDepth 100000 in
theorem lifted (os : Os) (started : os.Started) (H : Type) (enc : TypeId × Value → H) :
    ReturnsInHanded {} Try.checked os 6 .any (Rows.heapGoesSpec.pre6 enc Try.prog Try.f6 Rows.heapGoesRow.domain false) (Rows.heapGoesSpec.post enc Try.prog Try.f6 false true false false) := by
  refine returnsInHanded_of_change_sized (C := Try.checked) own started (by kernel_rfl) Try.func6
    (ChangeSpec.witness6 (enc := enc) (C := Try.checked) false ⟨#[], #[.slice none 0 0, .int .i64 0, .agg #[.int .i64 0, .int .i64 0]], []⟩ 8 (by kernel_rfl) (by kernel_rfl) (by kernel_rfl) (by kernel_rfl)) ?_
  intro W base args ds gs before hval0 hW hcnd hsz _
  have hval : ∀ (j : Nat) t v, Try.f6.params[j]? = some t → args[j]? = some v → Value.okWide Try.prog W .any base t v := hval0
  have hW' := hW
  obtain ⟨p, q, hA0, hV, rfl, hfz, hnd⟩ := hW
  have hA : DataW.TrodAll enc Try.prog W 0 (fun _ => true) true Try.f6.params.toList args.toList ds p := hA0
  rw [Try.params6] at hA hval
  obtain ⟨v0, vs0, d0, ds0, p0, q0, hargs, rfl, rfl, h0, r0⟩ := trodAll_cons hA
  obtain ⟨v1, vs1, d1, ds1, p1, q1, rfl, rfl, rfl, h1, r1⟩ := trodAll_cons r0
  obtain ⟨v2, vs2, d2, ds2, p2, q2, rfl, rfl, rfl, h2, r2⟩ := trodAll_cons r1
  obtain ⟨rfl, rfl, rfl⟩ := trodAll_nil r2
  obtain rfl : args = #[v0, v1, v2] := by cases args; simp_all
  obtain ⟨rfl, rfl⟩ := trodVars_none hV
  obtain ⟨a0, len, cap, rfl⟩ := okWide_slice Try.underlying22 (hval 0 22 v0 rfl rfl)
  obtain ⟨n1, rfl, rfl, rfl, w1⟩ := open_int Try.underlying3 (hval 1 3 v1 rfl rfl) h1
  have h2' := h2
  obtain ⟨u0, u1, y0, y1, n, rfl, rfl, rfl, e0, e1⟩ := open_agg2 Try.underlying40 (by kernel_rfl) cells40 (hval 2 40 v2 rfl rfl) h2
  obtain ⟨k0, f0, g0, _⟩ := DataW.trod_int Try.underlying3 e0
  obtain ⟨k1, f1, g1, _⟩ := DataW.trod_int Try.underlying3 e1
  obtain rfl : u0 = .int .i64 k0 := by simpa using f0
  obtain rfl : u1 = .int .i64 k1 := by simpa using f1
  obtain ⟨fuel, hf⟩ := h0
  obtain ⟨l, hpr, hlt2, _⟩ := open_items (by simpa [Value.cells] using hf)
  have hlt : ∀ x ∈ p0 ++ ([] ++ (y0.2 ++ y1.2)), x.block < W.heap.size := fun x hx => hW'.lt x (by simpa using hx)
  refine (goes_any hpr hlt2 n1 (k0, k1)).mono fun e W' ⟨he, hg⟩ => ?_
  subst he
  have ha := trodAll_cons_mk (Below.trod laidB read22 lt22 ⟨fuel, hf⟩ hg (fun x hx => hlt x (by simp [hx]))) (trodAll_cons_mk (shut_int Try.underlying3 w1) (trodAll_cons_mk (Below.trod laidB read40 lt40 h2' hg (fun x hx => hlt x (by simp at hx ⊢; exact .inr hx))) trodAll_mk0))
  exact ⟨_, rfl, post_read hW' (fun _ _ _ => (trodAll_cons_mk (shut_bool Try.underlying4 _) trodAll_mk0)) ha rfl (by simp) hg⟩

theorem over : Rows.heapGoesRow.holds Try.pinned (OpenSpec.ofChange Rows.heapGoesSpec) :=
  OpenClaim.holds_of_wide 6 Try.f6 rfl rfl rfl rfl rfl rfl rfl ⟨rfl, rfl, rfl, rfl, rfl⟩ rfl rfl rfl rfl rfl (by kernel_rfl) Try.func6 (by kernel_rfl)
    (of_decide_eq_true (by kernel_rfl)) (by unfold Func.isWrapper; first | (rw [if_pos (by decide +kernel)]; kernel_rfl) | (rw [if_neg (by decide +kernel)]; exact ⟨rfl, rfl⟩))
    (fun os started H enc _ => lifted os started H enc)

/-- the statement -/
theorem proved : Rows.HeapGoesSaid :=
  over
#print axioms proved
end Go.Proofs.Ytabbgananngjlaa.heapGoes
