/- step, over a label. -/
import Derived.Test.YtnohnkhhkeikoaaS
namespace Go.Proofs.Ytnohnkhhkeikoaa
open Go.ChangeShapes Go.WideShapes Go.ChangeAt Go.RowKit
set_option linter.unusedVariables false

attribute [local go_sem] Oper.semAt_some

set_option maxRecDepth 100000 in
set_option maxHeartbeats 8000000 in
theorem step_label {x : X} (hx : x.good) (hk : x.kind = 1) : StepC x := by
  intro g P Q fl c s b w hl hsp hc hP
  have hp := x.sz_pos
  obtain ⟨e0, kf, rfl⟩ : ∃ e0 kf, fl = e0 :: kf := List.exists_cons_of_length_pos (by omega)
  rw [SL_cons] at hsp
  have hkl : kf.length = szL x.kids := by rw [X.sz_eq] at hl; simp at hl; omega
  have hsp : SpM w g (P ++ spX e0 x :: (SLs x.kids kf ++ Q)) := by simpa using hsp
  have hb0 : Below w.heap.size w (((w.alloc (.cells #[.string s] 9)).alloc (.cells #[.bool b] 4)).alloc (.cells #[.pointer (some ⟨g, P.length * 5, none⟩)] 74)) := (((Below.refl _ w).alloc (Nat.le_refl _) _).alloc (by simp) _).alloc (by simp; try omega) _
  obtain ⟨W0, hQ0⟩ : ∃ W0, ((w.alloc (.cells #[.string s] 9)).alloc (.cells #[.bool b] 4)).alloc (.cells #[.pointer (some ⟨g, P.length * 5, none⟩)] 74) = W0 := ⟨_, rfl⟩
  rw [hQ0] at hb0
  have hz0 : W0.heap.size = w.heap.size + 3 := by rw [← hQ0]; simp
  have x4 : Boxed W0 w.heap.size 9 (.string s) := by
    unfold Boxed
    rw [← hQ0, Below.heap_alloc _ _ _ (by simp; try omega), Below.heap_alloc _ _ _ (by simp)]; exact World.alloc_heap_new w _
  have x5 : Boxed W0 (w.heap.size + 1) 4 (.bool b) := by
    unfold Boxed
    rw [← hQ0, Below.heap_alloc _ _ _ (by simp)]
    have := World.alloc_heap_new (w.alloc (.cells #[.string s] 9)) (.cells #[.bool b] 4)
    rwa [World.size_alloc] at this
  have x7 : Boxed W0 (w.heap.size + 1 + 1) 74 (.pointer (some ⟨g, P.length * 5, none⟩)) := by
    unfold Boxed
    rw [← hQ0]
    have := World.alloc_heap_new ((w.alloc (.cells #[.string s] 9)).alloc (.cells #[.bool b] 4)) (.cells #[.pointer (some ⟨g, P.length * 5, none⟩)] 74)
    rwa [World.size_alloc, World.size_alloc] at this
  have hsp0 := hsp.bel hb0
  obtain ⟨z0, z1, z2, z3, z4⟩ := hsp0.at0
  simp only [spX] at z0 z1 z2 z3 z4
  have c4 := x4.cell
  have c5 := x5.cell
  have c7 := x7.cell
  have hfz := hsp0.frozen (P.length * 5 + 4)
  have hgl := hsp.lt
  have hn4 : g ≠ w.heap.size := by omega
  have hn5 : g ≠ w.heap.size + 1 := by omega
  have hn7 : g ≠ w.heap.size + 1 + 1 := by omega
  have i1 : (0 : Int) < (x.sz : Int) := by omega
  have hks : x.kids = [] := by
    have hf := hx.fit
    unfold X.fits fitB at hf
    rw [if_pos hk, Bool.and_eq_true] at hf
    exact List.eq_nil_of_length_eq_zero (by simpa using hf.2)
  have hfl : stepF s x (e0 :: kf) b = [b && decide (x.lab = s)] := by
    rw [stepF_eq, if_pos hk]
    have : kf = [] := List.eq_nil_of_length_eq_zero (by rw [hkl, hks, szL_nil])
    rw [this]
    rfl
  rw [hfl]
  have hfin : ∀ (e : Bool), StepR g P Q x [e] w (.returned (.bool e)) (W0.setCell ⟨g, P.length * 5 + 4, none⟩ (.bool e)).drew := by
    intro e
    refine ⟨rfl, ?_, ((Ch.of_below hb0).setCell _ _).trans (Ch.of_below (Below.refl _ _).drew)⟩
    have := hsp0.store0 e
    rw [SL_cons]
    simp only [hks, SLs_nil, List.nil_append] at this ⊢
    exact this
  have HFIN := Lib.hid hfin
  rw [hk] at z0
  clear hfin hsp hsp0 hb0 x4 x5 x7 hl hfl
  have hcl : ∀ e, (W0.setCell ⟨g, P.length * 5 + 4, none⟩ (.bool e)).cell? ⟨g, P.length * 5 + 4, none⟩ = some (.bool e) := fun e => World.cell?_setCell_same _ _ _ z4
  have hc7 : ∀ e, (W0.setCell ⟨g, P.length * 5 + 4, none⟩ (.bool e)).cell? ⟨w.heap.size + 1 + 1, 0, none⟩ = some (.pointer (some ⟨g, P.length * 5, none⟩)) := fun e => (World.cell?_setCell_far _ _ _ _ hn7).trans c7
  refine (callsIn_wide (n := 12)).1 ?_
  refine callsIn_of_wp_marks Try.func42 rfl trivial ?_ rfl
  simp only [Try.ntmps42, List.size_toArray, List.length_cons, List.length_nil, Nat.reduceAdd, Nat.reduceSub, Array.replicate_succ, Array.replicate_zero, List.push_toArray, List.append_toArray, List.nil_append, List.cons_append]
  refine wpIn_wide.2 ?_
  cases b with
  | false =>
    go_upto_region 4 with (fail)
    try rw [hQ0]
    go_region
    go_wp2_with fail
    exact ⟨.bool false, by simp [results, Try.f42, go_sem], HFIN.out false⟩
  | true =>
    by_cases hs : x.lab = s
    · have HS := Lib.hid hs
      rw [hs] at z1
      clear hs
      go_upto_region 4 with (fail)
      try rw [hQ0]
      go_region
      go_wp2_with fail
      refine ⟨.bool true, by simp [results, Try.f42, go_sem], ?_⟩
      have := HFIN.out true
      rw [decide_eq_true HS.out]
      exact this
    · have hs' : x.lab.toList ≠ s.toList := fun h => hs (by
        have : x.lab.data.toList = s.data.toList := by rw [← ByteArray.toList_eq, ← ByteArray.toList_eq]; exact h
        exact ByteArray.ext (Array.toList_inj.1 this))
      have HS := Lib.hid hs
      have hbe : (x.lab.toList == s.toList) = false := by simp [hs']
      clear hs
      go_upto_region 4 with (fail)
      try rw [hQ0]
      go_region
      go_wp2_with fail
      refine ⟨.bool false, by simp [results, Try.f42, go_sem], ?_⟩
      have := HFIN.out false
      rw [decide_eq_false HS.out]
      exact this
end Go.Proofs.Ytnohnkhhkeikoaa
