/- step, over what comes again and again. -/
import Derived.Test.YtnohnkhhkeikoaaS
namespace Go.Proofs.Ytnohnkhhkeikoaa
open Go.ChangeShapes Go.WideShapes Go.ChangeAt Go.RowKit
set_option linter.unusedVariables false

attribute [local go_sem] Oper.semAt_some

set_option maxRecDepth 100000 in
set_option maxHeartbeats 8000000 in
theorem step_star {x : X} (hx : x.good) (hk : x.kind = 4 ∨ x.kind = 5) (ih : ∀ y ∈ x.kids, StepC y) : StepC x := by
  intro g P Q fl c s b w hl hsp hc hP
  have hp := x.sz_pos
  obtain ⟨e0, kf, rfl⟩ : ∃ e0 kf, fl = e0 :: kf := List.exists_cons_of_length_pos (by omega)
  rw [SL_cons] at hsp
  have hkl : kf.length = szL x.kids := by rw [X.sz_eq] at hl; simp at hl; omega
  have hsp : SpM w g (P ++ spX e0 x :: (SLs x.kids kf ++ Q)) := by simpa using hsp
  have hb0 : Below w.heap.size w (((w.alloc (.cells #[.string s] 9)).alloc (.cells #[.bool b] 4)).alloc (.cells #[.pointer (some ⟨g, P.length * 5, none⟩)] 74)) := (((Below.refl _ w).alloc (Nat.le_refl _) _).alloc (by simp) _).alloc (by simp; try omega) _
  obtain ⟨W0, hQ0⟩ : ∃ W0, ((w.alloc (.cells #[.string s] 9)).alloc (.cells #[.bool b] 4)).alloc (.cells #[.pointer (some ⟨g, P.length * 5, none⟩)] 74) = W0 := ⟨_, rfl⟩
  rw [hQ0] at hb0
  have hz0 : W0.heap.size = w.heap.size + 3 := by rw [← hQ0]; simp
  have x4 : Boxed W0 w.heap.size 9 (.string s) := by
    unfold Boxed
    rw [← hQ0, Below.heap_alloc _ _ _ (by simp; try omega), Below.heap_alloc _ _ _ (by simp)]; exact World.alloc_heap_new w _
  have x5 : Boxed W0 (w.heap.size + 1) 4 (.bool b) := by
    unfold Boxed
    rw [← hQ0, Below.heap_alloc _ _ _ (by simp)]
    have := World.alloc_heap_new (w.alloc (.cells #[.string s] 9)) (.cells #[.bool b] 4)
    rwa [World.size_alloc] at this
  have x7 : Boxed W0 (w.heap.size + 1 + 1) 74 (.pointer (some ⟨g, P.length * 5, none⟩)) := by
    unfold Boxed
    rw [← hQ0]
    have := World.alloc_heap_new ((w.alloc (.cells #[.string s] 9)).alloc (.cells #[.bool b] 4)) (.cells #[.pointer (some ⟨g, P.length * 5, none⟩)] 74)
    rwa [World.size_alloc, World.size_alloc] at this
  have hsp0 := hsp.bel hb0
  obtain ⟨z0, z1, z2, z3, z4⟩ := hsp0.at0
  simp only [spX] at z0 z1 z2 z3 z4
  have c4 := x4.cell
  have c5 := x5.cell
  have c7 := x7.cell
  have hfz := hsp0.frozen (P.length * 5 + 4)
  have hgl := hsp.lt
  have hn4 : g ≠ w.heap.size := by omega
  have hn5 : g ≠ w.heap.size + 1 := by omega
  have hn7 : g ≠ w.heap.size + 1 + 1 := by omega
  have i1 : (0 : Int) < (x.sz : Int) := by omega
  obtain ⟨y, hks⟩ : ∃ y, x.kids = [y] := by
    have hf := hx.fit
    unfold X.fits fitB at hf
    rw [if_neg (by omega), if_neg (by omega), if_pos (by omega), Bool.and_eq_true] at hf
    exact List.length_eq_one_iff.1 (of_decide_eq_true hf.2)
  have hxs : x.sz = 1 + y.sz := by rw [X.sz_eq, hks, szL_cons, szL_nil]; rfl
  rw [hks, szL_cons, szL_nil, Nat.add_zero] at hkl
  rw [hks, SLs_one y kf hkl] at hsp0
  obtain ⟨f', hf'⟩ : ∃ f', stepF s y kf (b || hd kf) = f' := ⟨_, rfl⟩
  have hfl : stepF s x (e0 :: kf) b = hd f' :: f' := by
    rw [stepF_eq, if_neg (by omega), if_neg (by omega), if_neg (by omega), hks, altS_cons, altS_nil]
    simp only [List.tail_cons, List.append_nil]
    rw [List.take_of_length_le (by omega), hf']
  rw [hfl]
  have hyg : y.good := hx.kids y (by rw [hks]; simp)
  have hyp := y.sz_pos
  have hfl' : f'.length = y.sz := by rw [← hf']; exact stepF_len s y hyg kf _ hkl
  have hcall := ih y (by rw [hks]; simp) g (P ++ [spX e0 x]) Q kf (c - 1) s (b || hd kf)
  rw [hf', show (P ++ [spX e0 x]).length * 5 = P.length * 5 + 5 by simp; omega] at hcall
  have hspk : SpM W0 g ((P ++ [spX e0 x]) ++ (SL y kf ++ Q)) := by simpa using hsp0
  have hfin : ∀ w5, SpM w5 g ((P ++ [spX e0 x]) ++ (SL y f' ++ Q)) → Ch g W0.drew w5 →
      (w5.cell? ⟨g, P.length * 5 + 4, none⟩ = some (.bool e0) ∧ w5.frozen? ⟨g, P.length * 5 + 4, none⟩ = false) ∧ (w5.setCell ⟨g, P.length * 5 + 4, none⟩ (.bool (hd f'))).cell? ⟨g, P.length * 5 + 4, none⟩ = some (.bool (hd f')) ∧
      StepR g P Q x (hd f' :: f') w (.returned (.bool (hd f'))) (w5.setCell ⟨g, P.length * 5 + 4, none⟩ (.bool (hd f'))) := by
    intro w5 hm hch
    have hm : SpM w5 g (P ++ spX e0 x :: (SL y f' ++ Q)) := by simpa using hm
    obtain ⟨-, -, -, -, q4⟩ := hm.at0
    simp only [spX] at q4
    refine ⟨⟨q4, hm.frozen _⟩, World.cell?_setCell_same _ _ _ q4, rfl, ?_, ?_⟩
    · have := hm.store0 (hd f')
      rw [spX_set] at this
      rw [SL_cons, hks, SLs_one y f' hfl']
      simpa using this
    · have h1 : Ch g w W0.drew := Ch.of_below hb0.drew
      exact (h1.trans hch).setCell _ _
  have z5 : W0.cell? ⟨g, P.length * 5 + 5 + 4, none⟩ = some (.bool (hd kf)) := by
    obtain ⟨e1, fk, hk1⟩ : ∃ e1 fk, kf = e1 :: fk := List.exists_cons_of_length_pos (by omega)
    rw [hk1, SL_cons] at hspk
    have hspk : SpM W0 g ((P ++ [spX e0 x]) ++ spX e1 y :: (SLs y.kids fk ++ Q)) := by simpa using hspk
    obtain ⟨-, -, -, -, q4⟩ := hspk.at0
    rw [hk1]
    have e : (P ++ [spX e0 x]).length * 5 + 4 = P.length * 5 + 5 + 4 := by simp; omega
    rw [e] at q4
    exact q4
  have hc1 : ¬ c = 1 := by omega
  have i3 : (1 : Int) ≤ ((1 + y.sz : Nat) : Int) := by omega
  have i4 : (0 : Int) < (y.sz : Int) := by omega
  have hcall' := hcall W0.drew hkl hspk (by omega) (by simp; omega)
  have HFIN := Lib.hid hfin
  have HCALL := Lib.hid hcall'
  have S0 := Lib.hid (show W0.drew.cell? ⟨w.heap.size, 0, none⟩ = some (.string s) ∧ W0.drew.cell? ⟨w.heap.size + 1, 0, none⟩ = some (.bool b) ∧ W0.drew.cell? ⟨w.heap.size + 1 + 1, 0, none⟩ = some (.pointer (some ⟨g, P.length * 5, none⟩)) from ⟨c4, c5, c7⟩)
  have keep : ∀ w5, Ch g W0 w5 → w5.cell? ⟨w.heap.size, 0, none⟩ = some (.string s) ∧ w5.cell? ⟨w.heap.size + 1, 0, none⟩ = some (.bool b) ∧ w5.cell? ⟨w.heap.size + 1 + 1, 0, none⟩ = some (.pointer (some ⟨g, P.length * 5, none⟩)) := fun w5 h =>
    ⟨(h.boxed x4 hn4.symm).cell, (h.boxed x5 hn5.symm).cell, (h.boxed x7 hn7.symm).cell⟩
  have KEEP := Lib.hid keep
  rw [hxs] at i1 ⊢
  clear hfin hsp hsp0 hb0 x4 x5 x7 hl hfl hcall hcall' hxs keep hspk hf' hp hyg
  generalize y.sz = ysz at *
  have hkk : ∃ k, x.kind = k ∧ (k = 4 ∨ k = 5) := ⟨_, rfl, hk⟩
  obtain ⟨kk, hke, hk45⟩ := hkk
  rw [hke] at z0
  clear hke hk
  cases b with
  | true =>
    rcases hk45 with rfl | rfl
    all_goals
    · simp only [Bool.true_or, Bool.false_or] at HCALL
      refine (callsIn_wide (n := 12)).1 ?_
      refine callsIn_of_wp_marks Try.func42 rfl trivial ?_ rfl
      simp only [Try.ntmps42, List.size_toArray, List.length_cons, List.length_nil, Nat.reduceAdd, Nat.reduceSub, Array.replicate_succ, Array.replicate_zero, List.push_toArray, List.append_toArray, List.nil_append, List.cons_append]
      refine wpIn_wide.2 ?_
      go_upto_region 17 with (fail)
      try rw [hQ0]
      refine wp_region_noPanic ?_
      refine wp_region_held_drew (S := fun w' => w'.cell? ⟨w.heap.size, 0, none⟩ = some (.string s) ∧ w'.cell? ⟨w.heap.size + 1, 0, none⟩ = some (.bool true) ∧ w'.cell? ⟨w.heap.size + 1 + 1, 0, none⟩ = some (.pointer (some ⟨g, P.length * 5, none⟩))) (by kernel_rfl) S0.out (fun hHeld => ?_)
      refine wpAnyH_take (i := 0) (v := .pointer (some ⟨g, P.length * 5, none⟩)) rfl (by kernel_rfl) (by kernel_rfl) (by kernel_rfl) (fun _ _ _ h => (h : False).elim) (Or.inl ⟨by rfl, ?_⟩) S0.out ?_
      · intro w hSw
        obtain ⟨hs0, hs1, hs2⟩ := hSw
        go_simp
      try simp only [Act.put, List.getElem_toArray, List.getElem_cons_zero, List.getElem_cons_succ, List.setIfInBounds_toArray, List.set_cons_zero, List.set_cons_succ]
      refine wpAnyH_take (i := 1) (v := .slice (some ⟨g, P.length * 5 + 5, none⟩) ysz (c - 1)) rfl (by kernel_rfl) (by kernel_rfl) (by kernel_rfl) (fun _ _ _ h => (h : False).elim) (Or.inl ⟨by rfl, ?_⟩) S0.out ?_
      · intro w hSw
        obtain ⟨hs0, hs1, hs2⟩ := hSw
        go_simp
      try simp only [Act.put, List.getElem_toArray, List.getElem_cons_zero, List.getElem_cons_succ, List.setIfInBounds_toArray, List.set_cons_zero, List.set_cons_succ]
      refine wpAnyH_take (i := 2) (v := .string s) rfl (by kernel_rfl) (by kernel_rfl) (by kernel_rfl) (fun _ _ _ h => (h : False).elim) (Or.inl ⟨by rfl, ?_⟩) S0.out ?_
      · intro w hSw
        obtain ⟨hs0, hs1, hs2⟩ := hSw
        go_simp
      try simp only [Act.put, List.getElem_toArray, List.getElem_cons_zero, List.getElem_cons_succ, List.setIfInBounds_toArray, List.set_cons_zero, List.set_cons_succ]
      refine wpAnyH_take (i := 3) (v := .bool true) rfl (by kernel_rfl) (by kernel_rfl) (by kernel_rfl) (fun _ _ _ h => (h : False).elim) (Or.inl ⟨by rfl, ?_⟩) S0.out ?_
      · intro w hSw
        obtain ⟨hs0, hs1, hs2⟩ := hSw
        go_simp
      try simp only [Act.put, List.getElem_toArray, List.getElem_cons_zero, List.getElem_cons_succ, List.setIfInBounds_toArray, List.set_cons_zero, List.set_cons_succ]
      refine wpAnyH_take (i := 4) (v := .bool true) rfl (by kernel_rfl) (by kernel_rfl) (by kernel_rfl) (fun _ _ _ h => (h : False).elim) (Or.inl ⟨by rfl, ?_⟩) S0.out ?_
      · intro w hSw
        obtain ⟨hs0, hs1, hs2⟩ := hSw
        go_simp
      try simp only [Act.put, List.getElem_toArray, List.getElem_cons_zero, List.getElem_cons_succ, List.setIfInBounds_toArray, List.set_cons_zero, List.set_cons_succ]
      refine wpAnyH_take (i := 5) (v := undef) rfl (by kernel_rfl) (by kernel_rfl) (by kernel_rfl) (fun _ _ _ h => (h : False).elim) (Or.inr ⟨by rfl, rfl⟩) S0.out ?_
      try simp only [Act.put, List.getElem_toArray, List.getElem_cons_zero, List.getElem_cons_succ, List.setIfInBounds_toArray, List.set_cons_zero, List.set_cons_succ]
      refine wpAnyH_take (i := 6) (v := undef) rfl (by kernel_rfl) (by kernel_rfl) (by kernel_rfl) (fun _ _ _ h => (h : False).elim) (Or.inr ⟨by rfl, rfl⟩) S0.out ?_
      try simp only [Act.put, List.getElem_toArray, List.getElem_cons_zero, List.getElem_cons_succ, List.setIfInBounds_toArray, List.set_cons_zero, List.set_cons_succ]
      refine wpAnyH_take (i := 7) (v := undef) rfl (by kernel_rfl) (by kernel_rfl) (by kernel_rfl) (fun _ _ _ h => (h : False).elim) (Or.inr ⟨by rfl, rfl⟩) S0.out ?_
      try simp only [Act.put, List.getElem_toArray, List.getElem_cons_zero, List.getElem_cons_succ, List.setIfInBounds_toArray, List.set_cons_zero, List.set_cons_succ]
      refine wpAnyH_take (i := 8) (v := undef) rfl (by kernel_rfl) (by kernel_rfl) (by kernel_rfl) (fun _ _ _ h => (h : False).elim) (Or.inr ⟨by rfl, rfl⟩) S0.out ?_
      try simp only [Act.put, List.getElem_toArray, List.getElem_cons_zero, List.getElem_cons_succ, List.setIfInBounds_toArray, List.set_cons_zero, List.set_cons_succ]
      refine wpAnyH_take (i := 9) (v := .bool true) rfl (by kernel_rfl) (by kernel_rfl) (by kernel_rfl) (fun _ _ _ h => (h : False).elim) (Or.inl ⟨by rfl, ?_⟩) S0.out ?_
      · intro w hSw
        obtain ⟨hs0, hs1, hs2⟩ := hSw
        go_simp
      try simp only [Act.put, List.getElem_toArray, List.getElem_cons_zero, List.getElem_cons_succ, List.setIfInBounds_toArray, List.set_cons_zero, List.set_cons_succ]
      refine wpAnyH_ready (rs := [10]) (by kernel_rfl) (by simp) ?_
      refine AllReadyH.cons rfl (fun K hK => ?_) AllReadyH.nil
      go_simp
      refine HCALL.out.mono ?_
      rintro e w5 ⟨rfl, hm5, hch5⟩
      have CH : Hid (Ch g W0 w5) := Lib.hid ((Ch.of_below (Below.refl _ W0).drew).trans hch5)
      obtain ⟨⟨k1, k2⟩, k3, k4⟩ := HFIN.out w5 hm5 hch5
      have K4 := Lib.hid k4
      have k5 := (KEEP.out _ (CH.out.setCell (P.length * 5 + 4) (.bool (hd f')))).2.2
      clear hm5 hch5 k4
      refine hK.out _ _ (KEEP.out _ CH.out) (fun _ => ?_)
      try simp only [Act.put, List.getElem_toArray, List.getElem_cons_zero, List.getElem_cons_succ, List.setIfInBounds_toArray, List.set_cons_zero, List.set_cons_succ]
      refine wpAnyH_take (i := 11) (v := .pointer (some ⟨g, P.length * 5, none⟩)) rfl (by kernel_rfl) (by kernel_rfl) (by kernel_rfl) (fun _ _ _ h => (h : False).elim) (Or.inl ⟨by rfl, ?_⟩) (KEEP.out _ CH.out) ?_
      · intro w hSw
        obtain ⟨hs0, hs1, hs2⟩ := hSw
        go_simp
      try simp only [Act.put, List.getElem_toArray, List.getElem_cons_zero, List.getElem_cons_succ, List.setIfInBounds_toArray, List.set_cons_zero, List.set_cons_succ]
      refine wpAnyH_take (i := 12) (v := .pointer (some ⟨g, P.length * 5 + 4, none⟩)) rfl (by kernel_rfl) (by kernel_rfl) (by kernel_rfl) (fun _ _ _ h => (h : False).elim) (Or.inl ⟨by rfl, ?_⟩) (KEEP.out _ CH.out) ?_
      · intro w hSw
        obtain ⟨hs0, hs1, hs2⟩ := hSw
        go_simp
      try simp only [Act.put, List.getElem_toArray, List.getElem_cons_zero, List.getElem_cons_succ, List.setIfInBounds_toArray, List.set_cons_zero, List.set_cons_succ]
      refine wpAnyH_ready (rs := [13]) (by kernel_rfl) (by simp) ?_
      refine AllReadyH.cons rfl (fun K hK => ?_) AllReadyH.nil
      go_simp
      refine hK.out _ _ (KEEP.out _ (CH.out.setCell _ _)) (fun _ => ?_)
      try simp only [Act.put, List.getElem_toArray, List.getElem_cons_zero, List.getElem_cons_succ, List.setIfInBounds_toArray, List.set_cons_zero, List.set_cons_succ]
      refine ⟨by kernel_rfl, ?_⟩
      refine NoPanic.normal ?_
      go_wp2_with fail
      exact ⟨.bool (hd f'), by simp [results, Try.f42, go_sem], K4.out⟩
  | false =>
    rcases hk45 with rfl | rfl
    all_goals
    · simp only [Bool.true_or, Bool.false_or] at HCALL
      refine (callsIn_wide (n := 12)).1 ?_
      refine callsIn_of_wp_marks Try.func42 rfl trivial ?_ rfl
      simp only [Try.ntmps42, List.size_toArray, List.length_cons, List.length_nil, Nat.reduceAdd, Nat.reduceSub, Array.replicate_succ, Array.replicate_zero, List.push_toArray, List.append_toArray, List.nil_append, List.cons_append]
      refine wpIn_wide.2 ?_
      go_upto_region 17 with (fail)
      try rw [hQ0]
      refine wp_region_noPanic ?_
      refine wp_region_held_drew (S := fun w' => w'.cell? ⟨w.heap.size, 0, none⟩ = some (.string s) ∧ w'.cell? ⟨w.heap.size + 1, 0, none⟩ = some (.bool false) ∧ w'.cell? ⟨w.heap.size + 1 + 1, 0, none⟩ = some (.pointer (some ⟨g, P.length * 5, none⟩))) (by kernel_rfl) S0.out (fun hHeld => ?_)
      refine wpAnyH_take (i := 0) (v := .pointer (some ⟨g, P.length * 5, none⟩)) rfl (by kernel_rfl) (by kernel_rfl) (by kernel_rfl) (fun _ _ _ h => (h : False).elim) (Or.inl ⟨by rfl, ?_⟩) S0.out ?_
      · intro w hSw
        obtain ⟨hs0, hs1, hs2⟩ := hSw
        go_simp
      try simp only [Act.put, List.getElem_toArray, List.getElem_cons_zero, List.getElem_cons_succ, List.setIfInBounds_toArray, List.set_cons_zero, List.set_cons_succ]
      refine wpAnyH_take (i := 1) (v := .slice (some ⟨g, P.length * 5 + 5, none⟩) ysz (c - 1)) rfl (by kernel_rfl) (by kernel_rfl) (by kernel_rfl) (fun _ _ _ h => (h : False).elim) (Or.inl ⟨by rfl, ?_⟩) S0.out ?_
      · intro w hSw
        obtain ⟨hs0, hs1, hs2⟩ := hSw
        go_simp
      try simp only [Act.put, List.getElem_toArray, List.getElem_cons_zero, List.getElem_cons_succ, List.setIfInBounds_toArray, List.set_cons_zero, List.set_cons_succ]
      refine wpAnyH_take (i := 2) (v := .string s) rfl (by kernel_rfl) (by kernel_rfl) (by kernel_rfl) (fun _ _ _ h => (h : False).elim) (Or.inl ⟨by rfl, ?_⟩) S0.out ?_
      · intro w hSw
        obtain ⟨hs0, hs1, hs2⟩ := hSw
        go_simp
      try simp only [Act.put, List.getElem_toArray, List.getElem_cons_zero, List.getElem_cons_succ, List.setIfInBounds_toArray, List.set_cons_zero, List.set_cons_succ]
      refine wpAnyH_take (i := 3) (v := .bool false) rfl (by kernel_rfl) (by kernel_rfl) (by kernel_rfl) (fun _ _ _ h => (h : False).elim) (Or.inl ⟨by rfl, ?_⟩) S0.out ?_
      · intro w hSw
        obtain ⟨hs0, hs1, hs2⟩ := hSw
        go_simp
      try simp only [Act.put, List.getElem_toArray, List.getElem_cons_zero, List.getElem_cons_succ, List.setIfInBounds_toArray, List.set_cons_zero, List.set_cons_succ]
      refine wpAnyH_take (i := 4) (v := .bool false) rfl (by kernel_rfl) (by kernel_rfl) (by kernel_rfl) (fun _ _ _ h => (h : False).elim) (Or.inl ⟨by rfl, ?_⟩) S0.out ?_
      · intro w hSw
        obtain ⟨hs0, hs1, hs2⟩ := hSw
        go_simp
      try simp only [Act.put, List.getElem_toArray, List.getElem_cons_zero, List.getElem_cons_succ, List.setIfInBounds_toArray, List.set_cons_zero, List.set_cons_succ]
      refine wpAnyH_take (i := 5) (v := .slice (some ⟨g, P.length * 5 + 5, none⟩) ysz (c - 1)) rfl (by kernel_rfl) (by kernel_rfl) (by kernel_rfl) (fun _ _ _ h => (h : False).elim) (Or.inl ⟨by rfl, ?_⟩) S0.out ?_
      · intro w hSw
        obtain ⟨hs0, hs1, hs2⟩ := hSw
        go_simp
      try simp only [Act.put, List.getElem_toArray, List.getElem_cons_zero, List.getElem_cons_succ, List.setIfInBounds_toArray, List.set_cons_zero, List.set_cons_succ]
      refine wpAnyH_take (i := 6) (v := .pointer (some ⟨g, P.length * 5 + 5, none⟩)) rfl (by kernel_rfl) (by kernel_rfl) (by kernel_rfl) (fun _ _ _ h => (h : False).elim) (Or.inl ⟨by rfl, ?_⟩) S0.out ?_
      · intro w hSw
        obtain ⟨hs0, hs1, hs2⟩ := hSw
        go_simp
      try simp only [Act.put, List.getElem_toArray, List.getElem_cons_zero, List.getElem_cons_succ, List.setIfInBounds_toArray, List.set_cons_zero, List.set_cons_succ]
      refine wpAnyH_take (i := 7) (v := .pointer (some ⟨g, P.length * 5 + 5 + 4, none⟩)) rfl (by kernel_rfl) (by kernel_rfl) (by kernel_rfl) (fun _ _ _ h => (h : False).elim) (Or.inl ⟨by rfl, ?_⟩) S0.out ?_
      · intro w hSw
        obtain ⟨hs0, hs1, hs2⟩ := hSw
        go_simp
      try simp only [Act.put, List.getElem_toArray, List.getElem_cons_zero, List.getElem_cons_succ, List.setIfInBounds_toArray, List.set_cons_zero, List.set_cons_succ]
      refine wpAnyH_ready (rs := [8]) (by kernel_rfl) (by simp) ?_
      refine AllReadyH.cons rfl (fun K hK => ?_) AllReadyH.nil
      go_simp
      refine hK.out _ _ S0.out (fun _ => ?_)
      try simp only [Act.put, List.getElem_toArray, List.getElem_cons_zero, List.getElem_cons_succ, List.setIfInBounds_toArray, List.set_cons_zero, List.set_cons_succ]
      refine wpAnyH_take (i := 9) (v := .bool (hd kf)) rfl (by kernel_rfl) (by kernel_rfl) (by kernel_rfl) (fun _ _ _ h => (h : False).elim) (Or.inl ⟨by rfl, ?_⟩) S0.out ?_
      · intro w hSw
        obtain ⟨hs0, hs1, hs2⟩ := hSw
        go_simp
      try simp only [Act.put, List.getElem_toArray, List.getElem_cons_zero, List.getElem_cons_succ, List.setIfInBounds_toArray, List.set_cons_zero, List.set_cons_succ]
      refine wpAnyH_ready (rs := [10]) (by kernel_rfl) (by simp) ?_
      refine AllReadyH.cons rfl (fun K hK => ?_) AllReadyH.nil
      go_simp
      refine HCALL.out.mono ?_
      rintro e w5 ⟨rfl, hm5, hch5⟩
      have CH : Hid (Ch g W0 w5) := Lib.hid ((Ch.of_below (Below.refl _ W0).drew).trans hch5)
      obtain ⟨⟨k1, k2⟩, k3, k4⟩ := HFIN.out w5 hm5 hch5
      have K4 := Lib.hid k4
      have k5 := (KEEP.out _ (CH.out.setCell (P.length * 5 + 4) (.bool (hd f')))).2.2
      clear hm5 hch5 k4
      refine hK.out _ _ (KEEP.out _ CH.out) (fun _ => ?_)
      try simp only [Act.put, List.getElem_toArray, List.getElem_cons_zero, List.getElem_cons_succ, List.setIfInBounds_toArray, List.set_cons_zero, List.set_cons_succ]
      refine wpAnyH_take (i := 11) (v := .pointer (some ⟨g, P.length * 5, none⟩)) rfl (by kernel_rfl) (by kernel_rfl) (by kernel_rfl) (fun _ _ _ h => (h : False).elim) (Or.inl ⟨by rfl, ?_⟩) (KEEP.out _ CH.out) ?_
      · intro w hSw
        obtain ⟨hs0, hs1, hs2⟩ := hSw
        go_simp
      try simp only [Act.put, List.getElem_toArray, List.getElem_cons_zero, List.getElem_cons_succ, List.setIfInBounds_toArray, List.set_cons_zero, List.set_cons_succ]
      refine wpAnyH_take (i := 12) (v := .pointer (some ⟨g, P.length * 5 + 4, none⟩)) rfl (by kernel_rfl) (by kernel_rfl) (by kernel_rfl) (fun _ _ _ h => (h : False).elim) (Or.inl ⟨by rfl, ?_⟩) (KEEP.out _ CH.out) ?_
      · intro w hSw
        obtain ⟨hs0, hs1, hs2⟩ := hSw
        go_simp
      try simp only [Act.put, List.getElem_toArray, List.getElem_cons_zero, List.getElem_cons_succ, List.setIfInBounds_toArray, List.set_cons_zero, List.set_cons_succ]
      refine wpAnyH_ready (rs := [13]) (by kernel_rfl) (by simp) ?_
      refine AllReadyH.cons rfl (fun K hK => ?_) AllReadyH.nil
      go_simp
      refine hK.out _ _ (KEEP.out _ (CH.out.setCell _ _)) (fun _ => ?_)
      try simp only [Act.put, List.getElem_toArray, List.getElem_cons_zero, List.getElem_cons_succ, List.setIfInBounds_toArray, List.set_cons_zero, List.set_cons_succ]
      refine ⟨by kernel_rfl, ?_⟩
      refine NoPanic.normal ?_
      go_wp2_with fail
      exact ⟨.bool (hd f'), by simp [results, Try.f42, go_sem], K4.out⟩
end Go.Proofs.Ytnohnkhhkeikoaa
