/-
  EdgeOrder answers true whatever edges and number it is given, and leaves all that lay in memory as it lay. No conditions.
-/
import Derived.Test.YtpoefcpgcojppaaK0
import Derived.Test.YtpoefcpgcojppaaK1
import Derived.Test.YtpoefcpgcojppaaK2
import Derived.Test.YtpoefcpgcojppaaK3
import Derived.Test.YtpoefcpgcojppaaK4
import Derived.Test.YtpoefcpgcojppaaK5
import Derived.Test.YtpoefcpgcojppaaK6
import Derived.Test.YtpoefcpgcojppaaK7
import Derived.Test.YtpoefcpgcojppaaK8
import Derived.Test.YtpoefcpgcojppaaK9
import Derived.Test.YtpoefcpgcojppaaK10
import Derived.Test.YtpoefcpgcojppaaRows
import Derived.Test.YtpoefcpgcojppaaChecked
namespace Go.Proofs.Ytpoefcpgcojppaa.edgeOrder
open Go.ChangeShapes Go.WideShapes Go.ChangeAt Go.RowKit Go.Deep Go.Joins
set_option linter.unusedVariables false

theorem open_cap {H : Type} {enc : TypeId × Value → H} {w : World} {n : Nat} {V : Value} {x : DataW H × List MemPlace} (h : DataW.trod enc Try.prog w 0 (fun _ => true) true n 26 [V] = some x) : CapOk V := by
  rcases open_slice Try.underlying26 h with ⟨hcs, hx⟩ | ⟨a, len, cap, m, n', D, Pl, hcs, _, hl, hm, hmm, hx, hi⟩
  · obtain rfl : V = .slice none 0 0 := by simpa using hcs
    exact cap_nil
  · obtain rfl : V = .slice (some a) len cap := by simpa using hcs
    simp only [if_true] at hmm
    subst hmm
    intro A n c e
    injection e with e1 e2 e3
    subst e1 e2 e3
    exact ⟨hl, fun h => by cases h⟩

set_option maxRecDepth 100000 in
theorem lifted (os : Os) (started : os.Started) (H : Type) (enc : TypeId × Value → H) :
    ReturnsInHanded {} Try.checked os 8 .any (Rows.edgeOrderSpec.pre6 enc Try.prog Try.f8 Rows.edgeOrderRow.domain false) (Rows.edgeOrderSpec.post enc Try.prog Try.f8 false true false false) := by
  refine returnsInHanded_of_change_sized (C := Try.checked) own started (by kernel_rfl) Try.func8
    (ChangeSpec.witness6 (enc := enc) (C := Try.checked) false ⟨#[], #[.slice none 0 0, .int .i64 0], []⟩ 8 (by kernel_rfl) (by kernel_rfl) (by kernel_rfl) (by kernel_rfl)) ?_
  intro W base args ds gs before hval0 hW hcnd hsz _
  have hval : ∀ (j : Nat) t v, Try.f8.params[j]? = some t → args[j]? = some v → Value.okWide Try.prog W .any base t v := hval0
  have hW' := hW
  obtain ⟨p, q, hA0, hV, rfl, hfz, hnd⟩ := hW
  have hA : DataW.TrodAll enc Try.prog W 0 (fun _ => true) true Try.f8.params.toList args.toList ds p := hA0
  rw [Try.params8] at hA hval
  obtain ⟨v2, vs2, d2, ds2, p2, q2, hargs, rfl, rfl, h2, r2⟩ := trodAll_cons hA
  obtain ⟨v1, vs1, d1, ds1, p1, q1, rfl, rfl, rfl, h1, r1⟩ := trodAll_cons r2
  obtain ⟨rfl, rfl, rfl⟩ := trodAll_nil r1
  obtain rfl : args = #[v2, v1] := by cases args; simp_all
  obtain ⟨rfl, rfl⟩ := trodVars_none hV
  have hr := reachBytes_lt
  obtain ⟨a2, len, cap, rfl⟩ := okWide_slice Try.underlying26 (hval 0 26 v2 rfl rfl)
  obtain ⟨fuel, hf⟩ := h2
  obtain ⟨l, hb2, hs2⟩ := open_edges (by simpa [Value.cells] using hf)
  have hc2 := open_cap (show DataW.trod enc Try.prog W 0 (fun _ => true) true fuel 26 [.slice a2 len cap] = some _ by simpa [Value.cells] using hf)
  have hz2 := hs2 (fun n hn => by
    have h1 := List.all_eq_true.1 hsz n (DataW.weights_mem_each (j := 0) (t := 26) rfl rfl n hn)
    simpa using h1)
  obtain ⟨k1, rfl, rfl, rfl, w1⟩ := open_int Try.underlying3 (hval 1 3 v1 rfl rfl) h1
  have hlt : ∀ x ∈ (p2 ++ ([] ++ [])) ++ [], x.block < W.heap.size := fun x hx => hW'.lt x (by simpa using hx)
  refine (order_any k1 hb2 hc2 (by omega) (fun p hp => by have := (hz2.2 p hp).2.2.2.1; omega)).mono fun e W' ⟨he, hg⟩ => ?_
  subst he
  exact ⟨_, rfl, post_read hW' (fun _ _ _ => (trodAll_cons_mk (shut_bool Try.underlying4 _) trodAll_mk0))
    (trodAll_cons_mk (Below.trod laidB read26 lt26 ⟨fuel, hf⟩ hg (fun x hx => hlt x (by simp [hx]))) (trodAll_cons_mk (shut_int Try.underlying3 w1) trodAll_mk0)) rfl (by simp) hg⟩

theorem over : Rows.edgeOrderRow.holds Try.pinned (OpenSpec.ofChange Rows.edgeOrderSpec) :=
  OpenClaim.holds_of_wide 8 Try.f8 rfl rfl rfl rfl rfl rfl rfl ⟨rfl, rfl, rfl, rfl, rfl⟩ rfl rfl rfl rfl rfl (by kernel_rfl) Try.func8 (by kernel_rfl)
    (of_decide_eq_true (by kernel_rfl)) (by unfold Func.isWrapper; first | (rw [if_pos (by decide +kernel)]; kernel_rfl) | (rw [if_neg (by decide +kernel)]; exact ⟨rfl, rfl⟩))
    (fun os started H enc _ => lifted os started H enc)

/-- the statement -/
theorem proved : Rows.EdgeOrderSaid :=
  over
#print axioms proved
end Go.Proofs.Ytpoefcpgcojppaa.edgeOrder
