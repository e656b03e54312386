/-
  ValueOrder answers true whatever three values and three rows of values it is given, and leaves all that lay in memory as it lay. Conditions: none but what the given card ties: the five package-level variables of Go's library that are listed hold what the program's text lays in them (the tie speaks of a pruned copy of the project).
-/
import Derived.Test.YtadjgjbkjhallaaDoorP
import Derived.Test.YtadjgjbkjhallaaDoorQ
import Derived.Test.YtadjgjbkjhallaaDoorY
namespace Go.Proofs.YtadjgjbkjhallaaDoor.valueOrder
open Go.ChangeShapes Go.WideShapes Go.ChangeAt Go.RowKit
open Go.ChangeMaps (open_string shut_string)
set_option linter.unusedVariables false

set_option maxRecDepth 100000 in
theorem lifted (os : Os) (started : os.Started) (H : Type) (enc : TypeId × Value → H) :
    ReturnsInHanded {} Tryd.checked os 5 .any (fun w args => (Rows.valueOrderSpec.pre enc Tryd.prog Tryd.f5 [] false w args ∧ laidMetH Tryd.prog laidL w) ∧ sizedMet enc Tryd.prog Tryd.f5 (OpenSpec.ofChange Rows.valueOrderSpec) false w args)
      (Rows.valueOrderSpec.post enc Tryd.prog Tryd.f5 false true false false) := by
  refine returnsInHanded_of_change_and (C := Tryd.checked) (X := fun w _ => laidMetH Tryd.prog laidL w) (fun _ _ _ hh h => h.of_heap hh) own started (by kernel_rfl) Tryd.func5
    (ChangeSpec.witness_shaped (enc := enc) (C := Tryd.checked) (os := os) (X := fun w _ => laidMetH Tryd.prog laidL w) false (World.doorLaid Tryd.prog 400 os) #[.agg #[.int .i64 0, .int .i64 0, .string ⟨#[]⟩], .agg #[.int .i64 0, .int .i64 0, .string ⟨#[]⟩], .agg #[.int .i64 0, .int .i64 0, .string ⟨#[]⟩], .slice none 0 0, .slice none 0 0, .slice none 0 0] 8 rfl (World.shaped_of_RefB (by kernel_rfl) (by kernel_rfl)) (by kernel_rfl) (by kernel_rfl) (by kernel_rfl) (door_met os _)) ?_
  intro W base args ds gs before hval0 hW hcnd hsz hL _
  have hval : ∀ (j : Nat) t v, Tryd.f5.params[j]? = some t → args[j]? = some v → Value.okWide Tryd.prog W .any base t v := hval0
  have hW' := hW
  obtain ⟨p, q, hA0, hV, rfl, hfz, hnd⟩ := hW
  have hA : DataW.TrodAll enc Tryd.prog W 0 (fun _ => true) true Tryd.f5.params.toList args.toList ds p := hA0
  rw [Tryd.params5] at hA hval
  obtain ⟨v0, vs0, d0, ds0, p0, q0, hargs, rfl, rfl, h0, r0⟩ := trodAll_cons hA
  obtain ⟨v1, vs1, d1, ds1, p1, q1, rfl, rfl, rfl, h1, r1⟩ := trodAll_cons r0
  obtain ⟨v2, vs2, d2, ds2, p2, q2, rfl, rfl, rfl, h2, r2⟩ := trodAll_cons r1
  obtain ⟨v3, vs3, d3, ds3, p3, q3, rfl, rfl, rfl, h3, r3⟩ := trodAll_cons r2
  obtain ⟨v4, vs4, d4, ds4, p4, q4, rfl, rfl, rfl, h4, r4⟩ := trodAll_cons r3
  obtain ⟨v5, vs5, d5, ds5, p5, q5, rfl, rfl, rfl, h5, r5⟩ := trodAll_cons r4
  obtain ⟨rfl, rfl, rfl⟩ := trodAll_nil r5
  obtain rfl : args = #[v0, v1, v2, v3, v4, v5] := by cases args; simp_all
  obtain ⟨rfl, rfl⟩ := trodVars_none hV
  have hr := reachBytes_lt
  obtain ⟨x0, rfl, hx0⟩ := open_val (hval 0 25 v0 rfl rfl) h0
  have hw0 : ∀ n ∈ d0.weights Tryd.prog 25, n ≤ reachBytes := fun n hn => by
    have h1 := List.all_eq_true.1 hsz n (DataW.weights_mem_each (j := 0) (t := 25) rfl rfl n hn)
    simpa using h1
  have hs0 := hx0 hw0
  obtain ⟨x1, rfl, hx1⟩ := open_val (hval 1 25 v1 rfl rfl) h1
  have hw1 : ∀ n ∈ d1.weights Tryd.prog 25, n ≤ reachBytes := fun n hn => by
    have h1 := List.all_eq_true.1 hsz n (DataW.weights_mem_each (j := 1) (t := 25) rfl rfl n hn)
    simpa using h1
  have hs1 := hx1 hw1
  obtain ⟨x2, rfl, hx2⟩ := open_val (hval 2 25 v2 rfl rfl) h2
  have hw2 : ∀ n ∈ d2.weights Tryd.prog 25, n ≤ reachBytes := fun n hn => by
    have h1 := List.all_eq_true.1 hsz n (DataW.weights_mem_each (j := 2) (t := 25) rfl rfl n hn)
    simpa using h1
  have hs2 := hx2 hw2
  obtain ⟨a3, len3, cap3, rfl⟩ := okWide_slice Tryd.underlying38 (hval 3 38 v3 rfl rfl)
  obtain ⟨fuel3, hf3⟩ := h3
  obtain ⟨x3, hv3, hx3⟩ := open_vals (by simpa [Value.cells] using hf3)
  have h3 : DataW.Trod enc Tryd.prog W 0 (fun _ => true) true 38 (.slice a3 len3 cap3) d3 p3 := ⟨fuel3, hf3⟩
  have hw3 : ∀ n ∈ d3.weights Tryd.prog 38, n ≤ reachBytes := fun n hn => by
    have h1 := List.all_eq_true.1 hsz n (DataW.weights_mem_each (j := 3) (t := 38) rfl rfl n hn)
    simpa using h1
  have hs3 := hx3 hw3
  obtain ⟨a4, len4, cap4, rfl⟩ := okWide_slice Tryd.underlying38 (hval 4 38 v4 rfl rfl)
  obtain ⟨fuel4, hf4⟩ := h4
  obtain ⟨x4, hv4, hx4⟩ := open_vals (by simpa [Value.cells] using hf4)
  have h4 : DataW.Trod enc Tryd.prog W 0 (fun _ => true) true 38 (.slice a4 len4 cap4) d4 p4 := ⟨fuel4, hf4⟩
  have hw4 : ∀ n ∈ d4.weights Tryd.prog 38, n ≤ reachBytes := fun n hn => by
    have h1 := List.all_eq_true.1 hsz n (DataW.weights_mem_each (j := 4) (t := 38) rfl rfl n hn)
    simpa using h1
  have hs4 := hx4 hw4
  obtain ⟨a5, len5, cap5, rfl⟩ := okWide_slice Tryd.underlying38 (hval 5 38 v5 rfl rfl)
  obtain ⟨fuel5, hf5⟩ := h5
  obtain ⟨x5, hv5, hx5⟩ := open_vals (by simpa [Value.cells] using hf5)
  have h5 : DataW.Trod enc Tryd.prog W 0 (fun _ => true) true 38 (.slice a5 len5 cap5) d5 p5 := ⟨fuel5, hf5⟩
  have hw5 : ∀ n ∈ d5.weights Tryd.prog 38, n ≤ reachBytes := fun n hn => by
    have h1 := List.all_eq_true.1 hsz n (DataW.weights_mem_each (j := 5) (t := 38) rfl rfl n hn)
    simpa using h1
  have hs5 := hx5 hw5
  have hlt : ∀ x ∈ (p0 ++ (p1 ++ (p2 ++ (p3 ++ (p4 ++ (p5 ++ [])))))) ++ [], x.block < W.heap.size := fun x hx => hW'.lt x (by simpa using hx)
  refine (order_any x0 x1 x2 x3 x4 x5 _ _ _ W (tb_of hL) hv3 hv4 hv5 (by have := hs3; omega) (by have := hs4; omega) (by have := hs5; omega)).mono fun e W' ⟨he, hg⟩ => ?_
  subst he
  exact ⟨_, rfl, post_read hW' (fun _ _ _ => (trodAll_cons_mk (shut_bool Tryd.underlying4 _) trodAll_mk0)) (trodAll_cons_mk (Below.trod laidB read25 lt25 h0 hg (fun x hx => hlt x (by simp [hx]))) (trodAll_cons_mk (Below.trod laidB read25 lt25 h1 hg (fun x hx => hlt x (by simp [hx]))) (trodAll_cons_mk (Below.trod laidB read25 lt25 h2 hg (fun x hx => hlt x (by simp [hx]))) (trodAll_cons_mk (Below.trod laidB read38 lt38 h3 hg (fun x hx => hlt x (by simp [hx]))) (trodAll_cons_mk (Below.trod laidB read38 lt38 h4 hg (fun x hx => hlt x (by simp [hx]))) (trodAll_cons_mk (Below.trod laidB read38 lt38 h5 hg (fun x hx => hlt x (by simp [hx]))) trodAll_mk0)))))) rfl (by simp) hg⟩

theorem row_holds : Rows.ValueOrderSaid :=
  OpenClaim.holds_of_wide 5 Tryd.f5 rfl rfl rfl rfl rfl rfl rfl ⟨rfl, rfl, rfl, rfl, rfl⟩ rfl rfl rfl rfl rfl (by kernel_rfl) Tryd.func5 (by kernel_rfl)
    (of_decide_eq_true (by kernel_rfl)) (by unfold Func.isWrapper; first | (rw [if_pos (by decide +kernel)]; kernel_rfl) | (rw [if_neg (by decide +kernel)]; exact ⟨rfl, rfl⟩))
    (fun os started H enc _ => lifted os started H enc)

/-- the statement -/
theorem proved : Rows.ValueOrderCardSaid :=
  Claim7.holds_tied_plain_at .later [] [.data, .data, .data, .sentinel, .sentinel] true (true, "fa0afffd7a3ef3c6e4209a8ab6524289f6865767d396a7b4ec7b410765f25335") true
    row_holds (fun _ h => by cases h) (by kernel_rfl) (fun _ h => by cases h) valueOrder_row_tie rfl ⟨rfl, rfl⟩ (by kernel_rfl) rfl
    (fun f fn hf hfn => by
      obtain rfl : f = 5 := Option.some.inj ((show Tryd.prog.funcNamed "kinescope/kinescopelaw05.ValueOrder" = some 5 by kernel_rfl).symm.trans hf) |>.symm
      obtain rfl : fn = Tryd.f5 := (Option.some.inj (Tryd.func5.symm.trans hfn)).symm
      exact ⟨by kernel_rfl, fun j t ht => by
        rw [Tryd.params5] at ht
        have h3 : t = 25 ∨ t = 38 := by
          rcases j with _ | _ | _ | _ | _ | _ | j
          · left; simpa using ht.symm
          · left; simpa using ht.symm
          · left; simpa using ht.symm
          · right; simpa using ht.symm
          · right; simpa using ht.symm
          · right; simpa using ht.symm
          · simp at ht
        rcases h3 with rfl | rfl
        · exact (show Tryd.prog.wantsStandIn 25 = false by kernel_rfl)
        · exact (show Tryd.prog.wantsStandIn 38 = false by kernel_rfl)⟩)
    (by kernel_rfl)
#print axioms proved
end Go.Proofs.YtadjgjbkjhallaaDoor.valueOrder
