/- Texts T4, U, OA, ZS, one behind the other. -/
import Derived.Test.YtnccgaanfjaimaaDoorG0
import Derived.Test.YtnccgaanfjaimaaDoorG4
import Derived.Test.YtnccgaanfjaimaaDoorG5
import Derived.LaidMore
import Derived.OpenShut
import Derived.SevenTiedAt
import Derived.MakeChecks
import Derived.Lib.LaidTab
import Derived.Deep.Slices
import Derived.Deep.Strs
import Derived.SliceStrings
import Derived.SizedLaws
import Derived.Carry
import Derived.Lib.SmallJoins
import Derived.Lib.TrailingZeros
set_option linter.unusedSimpArgs false
set_option linter.unusedVariables false
namespace Go.Proofs.YtnccgaanfjaimaaDoor
open Go.ChangeShapes Go.WideShapes Go.ChangeAt Go.RowKit
set_option linter.unusedVariables false
set_option linter.unusedSimpArgs false

attribute [local go_sem] Oper.semAt_some

set_option maxRecDepth 100000 in
set_option maxHeartbeats 8000000 in
theorem step_star {x : X} (hx : x.good) (hk : x.kind = 4 ∨ x.kind = 5) (ih : ∀ y ∈ x.kids, StepC y) : StepC x := by
  intro g P Q fl c s b w hl hsp hc hP
  have hp := x.sz_pos
  obtain ⟨e0, kf, rfl⟩ : ∃ e0 kf, fl = e0 :: kf := List.exists_cons_of_length_pos (by omega)
  rw [SL_cons] at hsp
  have hkl : kf.length = szL x.kids := by rw [X.sz_eq] at hl; simp at hl; omega
  have hsp : SpM w g (P ++ spX e0 x :: (SLs x.kids kf ++ Q)) := by simpa using hsp
  have hb0 : Below w.heap.size w (((w.alloc (.cells #[.string s] 9)).alloc (.cells #[.bool b] 4)).alloc (.cells #[.pointer (some ⟨g, P.length * 5, none⟩)] 110)) := (((Below.refl _ w).alloc (Nat.le_refl _) _).alloc (by simp) _).alloc (by simp; try omega) _
  obtain ⟨W0, hQ0⟩ : ∃ W0, ((w.alloc (.cells #[.string s] 9)).alloc (.cells #[.bool b] 4)).alloc (.cells #[.pointer (some ⟨g, P.length * 5, none⟩)] 110) = W0 := ⟨_, rfl⟩
  rw [hQ0] at hb0
  have hz0 : W0.heap.size = w.heap.size + 3 := by rw [← hQ0]; simp
  have x4 : Boxed W0 w.heap.size 9 (.string s) := by
    unfold Boxed
    rw [← hQ0, Below.heap_alloc _ _ _ (by simp; try omega), Below.heap_alloc _ _ _ (by simp)]; exact World.alloc_heap_new w _
  have x5 : Boxed W0 (w.heap.size + 1) 4 (.bool b) := by
    unfold Boxed
    rw [← hQ0, Below.heap_alloc _ _ _ (by simp)]
    have := World.alloc_heap_new (w.alloc (.cells #[.string s] 9)) (.cells #[.bool b] 4)
    rwa [World.size_alloc] at this
  have x7 : Boxed W0 (w.heap.size + 1 + 1) 110 (.pointer (some ⟨g, P.length * 5, none⟩)) := by
    unfold Boxed
    rw [← hQ0]
    have := World.alloc_heap_new ((w.alloc (.cells #[.string s] 9)).alloc (.cells #[.bool b] 4)) (.cells #[.pointer (some ⟨g, P.length * 5, none⟩)] 110)
    rwa [World.size_alloc, World.size_alloc] at this
  have hsp0 := hsp.bel hb0
  obtain ⟨z0, z1, z2, z3, z4⟩ := hsp0.at0
  simp only [spX] at z0 z1 z2 z3 z4
  have c4 := x4.cell
  have c5 := x5.cell
  have c7 := x7.cell
  have hfz := hsp0.frozen (P.length * 5 + 4)
  have hgl := hsp.lt
  have hn4 : g ≠ w.heap.size := by omega
  have hn5 : g ≠ w.heap.size + 1 := by omega
  have hn7 : g ≠ w.heap.size + 1 + 1 := by omega
  have i1 : (0 : Int) < (x.sz : Int) := by omega
  obtain ⟨y, hks⟩ : ∃ y, x.kids = [y] := by
    have hf := hx.fit
    unfold X.fits fitB at hf
    rw [if_neg (by omega), if_neg (by omega), if_pos (by omega), Bool.and_eq_true] at hf
    exact List.length_eq_one_iff.1 (of_decide_eq_true hf.2)
  have hxs : x.sz = 1 + y.sz := by rw [X.sz_eq, hks, szL_cons, szL_nil]; rfl
  rw [hks, szL_cons, szL_nil, Nat.add_zero] at hkl
  rw [hks, SLs_one y kf hkl] at hsp0
  obtain ⟨f', hf'⟩ : ∃ f', stepF s y kf (b || hd kf) = f' := ⟨_, rfl⟩
  have hfl : stepF s x (e0 :: kf) b = hd f' :: f' := by
    rw [stepF_eq, if_neg (by omega), if_neg (by omega), if_neg (by omega), hks, altS_cons, altS_nil]
    simp only [List.tail_cons, List.append_nil]
    rw [List.take_of_length_le (by omega), hf']
  rw [hfl]
  have hyg : y.good := hx.kids y (by rw [hks]; simp)
  have hyp := y.sz_pos
  have hfl' : f'.length = y.sz := by rw [← hf']; exact stepF_len s y hyg kf _ hkl
  have hcall := ih y (by rw [hks]; simp) g (P ++ [spX e0 x]) Q kf (c - 1) s (b || hd kf)
  rw [hf', show (P ++ [spX e0 x]).length * 5 = P.length * 5 + 5 by simp; omega] at hcall
  have hspk : SpM W0 g ((P ++ [spX e0 x]) ++ (SL y kf ++ Q)) := by simpa using hsp0
  have hfin : ∀ w5, SpM w5 g ((P ++ [spX e0 x]) ++ (SL y f' ++ Q)) → Ch g W0.drew w5 →
      (w5.cell? ⟨g, P.length * 5 + 4, none⟩ = some (.bool e0) ∧ w5.frozen? ⟨g, P.length * 5 + 4, none⟩ = false) ∧ (w5.setCell ⟨g, P.length * 5 + 4, none⟩ (.bool (hd f'))).cell? ⟨g, P.length * 5 + 4, none⟩ = some (.bool (hd f')) ∧
      StepR g P Q x (hd f' :: f') w (.returned (.bool (hd f'))) (w5.setCell ⟨g, P.length * 5 + 4, none⟩ (.bool (hd f'))) := by
    intro w5 hm hch
    have hm : SpM w5 g (P ++ spX e0 x :: (SL y f' ++ Q)) := by simpa using hm
    obtain ⟨-, -, -, -, q4⟩ := hm.at0
    simp only [spX] at q4
    refine ⟨⟨q4, hm.frozen _⟩, World.cell?_setCell_same _ _ _ q4, rfl, ?_, ?_⟩
    · have := hm.store0 (hd f')
      rw [spX_set] at this
      rw [SL_cons, hks, SLs_one y f' hfl']
      simpa using this
    · have h1 : Ch g w W0.drew := Ch.of_below hb0.drew
      exact (h1.trans hch).setCell _ _
  have z5 : W0.cell? ⟨g, P.length * 5 + 5 + 4, none⟩ = some (.bool (hd kf)) := by
    obtain ⟨e1, fk, hk1⟩ : ∃ e1 fk, kf = e1 :: fk := List.exists_cons_of_length_pos (by omega)
    rw [hk1, SL_cons] at hspk
    have hspk : SpM W0 g ((P ++ [spX e0 x]) ++ spX e1 y :: (SLs y.kids fk ++ Q)) := by simpa using hspk
    obtain ⟨-, -, -, -, q4⟩ := hspk.at0
    rw [hk1]
    have e : (P ++ [spX e0 x]).length * 5 + 4 = P.length * 5 + 5 + 4 := by simp; omega
    rw [e] at q4
    exact q4
  have hc1 : ¬ c = 1 := by omega
  have i3 : (1 : Int) ≤ ((1 + y.sz : Nat) : Int) := by omega
  have i4 : (0 : Int) < (y.sz : Int) := by omega
  have hcall' := hcall W0.drew hkl hspk (by omega) (by simp; omega)
  have HFIN := Lib.hid hfin
  have HCALL := Lib.hid hcall'
  have S0 := Lib.hid (show W0.drew.cell? ⟨w.heap.size, 0, none⟩ = some (.string s) ∧ W0.drew.cell? ⟨w.heap.size + 1, 0, none⟩ = some (.bool b) ∧ W0.drew.cell? ⟨w.heap.size + 1 + 1, 0, none⟩ = some (.pointer (some ⟨g, P.length * 5, none⟩)) from ⟨c4, c5, c7⟩)
  have keep : ∀ w5, Ch g W0 w5 → w5.cell? ⟨w.heap.size, 0, none⟩ = some (.string s) ∧ w5.cell? ⟨w.heap.size + 1, 0, none⟩ = some (.bool b) ∧ w5.cell? ⟨w.heap.size + 1 + 1, 0, none⟩ = some (.pointer (some ⟨g, P.length * 5, none⟩)) := fun w5 h =>
    ⟨(h.boxed x4 hn4.symm).cell, (h.boxed x5 hn5.symm).cell, (h.boxed x7 hn7.symm).cell⟩
  have KEEP := Lib.hid keep
  rw [hxs] at i1 ⊢
  clear hfin hsp hsp0 hb0 x4 x5 x7 hl hfl hcall hcall' hxs keep hspk hf' hp hyg
  generalize y.sz = ysz at *
  have hkk : ∃ k, x.kind = k ∧ (k = 4 ∨ k = 5) := ⟨_, rfl, hk⟩
  obtain ⟨kk, hke, hk45⟩ := hkk
  rw [hke] at z0
  clear hke hk
  cases b with
  | true =>
    rcases hk45 with rfl | rfl
    all_goals
    · simp only [Bool.true_or, Bool.false_or] at HCALL
      refine (callsIn_wide (n := 12)).1 ?_
      refine callsIn_of_wp_marks Tryd.func63 rfl trivial ?_ rfl
      simp only [Tryd.ntmps63, List.size_toArray, List.length_cons, List.length_nil, Nat.reduceAdd, Nat.reduceSub, Array.replicate_succ, Array.replicate_zero, List.push_toArray, List.append_toArray, List.nil_append, List.cons_append]
      refine wpIn_wide.2 ?_
      go_upto_region 17 with (fail)
      try rw [hQ0]
      refine wp_region_noPanic ?_
      refine wp_region_held_drew (S := fun w' => w'.cell? ⟨w.heap.size, 0, none⟩ = some (.string s) ∧ w'.cell? ⟨w.heap.size + 1, 0, none⟩ = some (.bool true) ∧ w'.cell? ⟨w.heap.size + 1 + 1, 0, none⟩ = some (.pointer (some ⟨g, P.length * 5, none⟩))) (by kernel_rfl) S0.out (fun hHeld => ?_)
      refine wpAnyH_take (i := 0) (v := .pointer (some ⟨g, P.length * 5, none⟩)) rfl (by kernel_rfl) (by kernel_rfl) (by kernel_rfl) (fun _ _ _ h => (h : False).elim) (Or.inl ⟨by rfl, ?_⟩) S0.out ?_
      · intro w hSw
        obtain ⟨hs0, hs1, hs2⟩ := hSw
        go_simp
      try simp only [Act.put, List.getElem_toArray, List.getElem_cons_zero, List.getElem_cons_succ, List.setIfInBounds_toArray, List.set_cons_zero, List.set_cons_succ]
      refine wpAnyH_take (i := 1) (v := .slice (some ⟨g, P.length * 5 + 5, none⟩) ysz (c - 1)) rfl (by kernel_rfl) (by kernel_rfl) (by kernel_rfl) (fun _ _ _ h => (h : False).elim) (Or.inl ⟨by rfl, ?_⟩) S0.out ?_
      · intro w hSw
        obtain ⟨hs0, hs1, hs2⟩ := hSw
        go_simp
      try simp only [Act.put, List.getElem_toArray, List.getElem_cons_zero, List.getElem_cons_succ, List.setIfInBounds_toArray, List.set_cons_zero, List.set_cons_succ]
      refine wpAnyH_take (i := 2) (v := .string s) rfl (by kernel_rfl) (by kernel_rfl) (by kernel_rfl) (fun _ _ _ h => (h : False).elim) (Or.inl ⟨by rfl, ?_⟩) S0.out ?_
      · intro w hSw
        obtain ⟨hs0, hs1, hs2⟩ := hSw
        go_simp
      try simp only [Act.put, List.getElem_toArray, List.getElem_cons_zero, List.getElem_cons_succ, List.setIfInBounds_toArray, List.set_cons_zero, List.set_cons_succ]
      refine wpAnyH_take (i := 3) (v := .bool true) rfl (by kernel_rfl) (by kernel_rfl) (by kernel_rfl) (fun _ _ _ h => (h : False).elim) (Or.inl ⟨by rfl, ?_⟩) S0.out ?_
      · intro w hSw
        obtain ⟨hs0, hs1, hs2⟩ := hSw
        go_simp
      try simp only [Act.put, List.getElem_toArray, List.getElem_cons_zero, List.getElem_cons_succ, List.setIfInBounds_toArray, List.set_cons_zero, List.set_cons_succ]
      refine wpAnyH_take (i := 4) (v := .bool true) rfl (by kernel_rfl) (by kernel_rfl) (by kernel_rfl) (fun _ _ _ h => (h : False).elim) (Or.inl ⟨by rfl, ?_⟩) S0.out ?_
      · intro w hSw
        obtain ⟨hs0, hs1, hs2⟩ := hSw
        go_simp
      try simp only [Act.put, List.getElem_toArray, List.getElem_cons_zero, List.getElem_cons_succ, List.setIfInBounds_toArray, List.set_cons_zero, List.set_cons_succ]
      refine wpAnyH_take (i := 5) (v := undef) rfl (by kernel_rfl) (by kernel_rfl) (by kernel_rfl) (fun _ _ _ h => (h : False).elim) (Or.inr ⟨by rfl, rfl⟩) S0.out ?_
      try simp only [Act.put, List.getElem_toArray, List.getElem_cons_zero, List.getElem_cons_succ, List.setIfInBounds_toArray, List.set_cons_zero, List.set_cons_succ]
      refine wpAnyH_take (i := 6) (v := undef) rfl (by kernel_rfl) (by kernel_rfl) (by kernel_rfl) (fun _ _ _ h => (h : False).elim) (Or.inr ⟨by rfl, rfl⟩) S0.out ?_
      try simp only [Act.put, List.getElem_toArray, List.getElem_cons_zero, List.getElem_cons_succ, List.setIfInBounds_toArray, List.set_cons_zero, List.set_cons_succ]
      refine wpAnyH_take (i := 7) (v := undef) rfl (by kernel_rfl) (by kernel_rfl) (by kernel_rfl) (fun _ _ _ h => (h : False).elim) (Or.inr ⟨by rfl, rfl⟩) S0.out ?_
      try simp only [Act.put, List.getElem_toArray, List.getElem_cons_zero, List.getElem_cons_succ, List.setIfInBounds_toArray, List.set_cons_zero, List.set_cons_succ]
      refine wpAnyH_take (i := 8) (v := undef) rfl (by kernel_rfl) (by kernel_rfl) (by kernel_rfl) (fun _ _ _ h => (h : False).elim) (Or.inr ⟨by rfl, rfl⟩) S0.out ?_
      try simp only [Act.put, List.getElem_toArray, List.getElem_cons_zero, List.getElem_cons_succ, List.setIfInBounds_toArray, List.set_cons_zero, List.set_cons_succ]
      refine wpAnyH_take (i := 9) (v := .bool true) rfl (by kernel_rfl) (by kernel_rfl) (by kernel_rfl) (fun _ _ _ h => (h : False).elim) (Or.inl ⟨by rfl, ?_⟩) S0.out ?_
      · intro w hSw
        obtain ⟨hs0, hs1, hs2⟩ := hSw
        go_simp
      try simp only [Act.put, List.getElem_toArray, List.getElem_cons_zero, List.getElem_cons_succ, List.setIfInBounds_toArray, List.set_cons_zero, List.set_cons_succ]
      refine wpAnyH_ready (rs := [10]) (by kernel_rfl) (by simp) ?_
      refine AllReadyH.cons rfl (fun K hK => ?_) AllReadyH.nil
      go_simp
      refine HCALL.out.mono ?_
      rintro e w5 ⟨rfl, hm5, hch5⟩
      have CH : Hid (Ch g W0 w5) := Lib.hid ((Ch.of_below (Below.refl _ W0).drew).trans hch5)
      obtain ⟨⟨k1, k2⟩, k3, k4⟩ := HFIN.out w5 hm5 hch5
      have K4 := Lib.hid k4
      have k5 := (KEEP.out _ (CH.out.setCell (P.length * 5 + 4) (.bool (hd f')))).2.2
      clear hm5 hch5 k4
      refine hK.out _ _ (KEEP.out _ CH.out) (fun _ => ?_)
      try simp only [Act.put, List.getElem_toArray, List.getElem_cons_zero, List.getElem_cons_succ, List.setIfInBounds_toArray, List.set_cons_zero, List.set_cons_succ]
      refine wpAnyH_take (i := 11) (v := .pointer (some ⟨g, P.length * 5, none⟩)) rfl (by kernel_rfl) (by kernel_rfl) (by kernel_rfl) (fun _ _ _ h => (h : False).elim) (Or.inl ⟨by rfl, ?_⟩) (KEEP.out _ CH.out) ?_
      · intro w hSw
        obtain ⟨hs0, hs1, hs2⟩ := hSw
        go_simp
      try simp only [Act.put, List.getElem_toArray, List.getElem_cons_zero, List.getElem_cons_succ, List.setIfInBounds_toArray, List.set_cons_zero, List.set_cons_succ]
      refine wpAnyH_take (i := 12) (v := .pointer (some ⟨g, P.length * 5 + 4, none⟩)) rfl (by kernel_rfl) (by kernel_rfl) (by kernel_rfl) (fun _ _ _ h => (h : False).elim) (Or.inl ⟨by rfl, ?_⟩) (KEEP.out _ CH.out) ?_
      · intro w hSw
        obtain ⟨hs0, hs1, hs2⟩ := hSw
        go_simp
      try simp only [Act.put, List.getElem_toArray, List.getElem_cons_zero, List.getElem_cons_succ, List.setIfInBounds_toArray, List.set_cons_zero, List.set_cons_succ]
      refine wpAnyH_ready (rs := [13]) (by kernel_rfl) (by simp) ?_
      refine AllReadyH.cons rfl (fun K hK => ?_) AllReadyH.nil
      go_simp
      refine hK.out _ _ (KEEP.out _ (CH.out.setCell _ _)) (fun _ => ?_)
      try simp only [Act.put, List.getElem_toArray, List.getElem_cons_zero, List.getElem_cons_succ, List.setIfInBounds_toArray, List.set_cons_zero, List.set_cons_succ]
      refine ⟨by kernel_rfl, ?_⟩
      refine NoPanic.normal ?_
      go_wp2_with fail
      exact ⟨.bool (hd f'), by simp [results, Tryd.f63, go_sem], K4.out⟩
  | false =>
    rcases hk45 with rfl | rfl
    all_goals
    · simp only [Bool.true_or, Bool.false_or] at HCALL
      refine (callsIn_wide (n := 12)).1 ?_
      refine callsIn_of_wp_marks Tryd.func63 rfl trivial ?_ rfl
      simp only [Tryd.ntmps63, List.size_toArray, List.length_cons, List.length_nil, Nat.reduceAdd, Nat.reduceSub, Array.replicate_succ, Array.replicate_zero, List.push_toArray, List.append_toArray, List.nil_append, List.cons_append]
      refine wpIn_wide.2 ?_
      go_upto_region 17 with (fail)
      try rw [hQ0]
      refine wp_region_noPanic ?_
      refine wp_region_held_drew (S := fun w' => w'.cell? ⟨w.heap.size, 0, none⟩ = some (.string s) ∧ w'.cell? ⟨w.heap.size + 1, 0, none⟩ = some (.bool false) ∧ w'.cell? ⟨w.heap.size + 1 + 1, 0, none⟩ = some (.pointer (some ⟨g, P.length * 5, none⟩))) (by kernel_rfl) S0.out (fun hHeld => ?_)
      refine wpAnyH_take (i := 0) (v := .pointer (some ⟨g, P.length * 5, none⟩)) rfl (by kernel_rfl) (by kernel_rfl) (by kernel_rfl) (fun _ _ _ h => (h : False).elim) (Or.inl ⟨by rfl, ?_⟩) S0.out ?_
      · intro w hSw
        obtain ⟨hs0, hs1, hs2⟩ := hSw
        go_simp
      try simp only [Act.put, List.getElem_toArray, List.getElem_cons_zero, List.getElem_cons_succ, List.setIfInBounds_toArray, List.set_cons_zero, List.set_cons_succ]
      refine wpAnyH_take (i := 1) (v := .slice (some ⟨g, P.length * 5 + 5, none⟩) ysz (c - 1)) rfl (by kernel_rfl) (by kernel_rfl) (by kernel_rfl) (fun _ _ _ h => (h : False).elim) (Or.inl ⟨by rfl, ?_⟩) S0.out ?_
      · intro w hSw
        obtain ⟨hs0, hs1, hs2⟩ := hSw
        go_simp
      try simp only [Act.put, List.getElem_toArray, List.getElem_cons_zero, List.getElem_cons_succ, List.setIfInBounds_toArray, List.set_cons_zero, List.set_cons_succ]
      refine wpAnyH_take (i := 2) (v := .string s) rfl (by kernel_rfl) (by kernel_rfl) (by kernel_rfl) (fun _ _ _ h => (h : False).elim) (Or.inl ⟨by rfl, ?_⟩) S0.out ?_
      · intro w hSw
        obtain ⟨hs0, hs1, hs2⟩ := hSw
        go_simp
      try simp only [Act.put, List.getElem_toArray, List.getElem_cons_zero, List.getElem_cons_succ, List.setIfInBounds_toArray, List.set_cons_zero, List.set_cons_succ]
      refine wpAnyH_take (i := 3) (v := .bool false) rfl (by kernel_rfl) (by kernel_rfl) (by kernel_rfl) (fun _ _ _ h => (h : False).elim) (Or.inl ⟨by rfl, ?_⟩) S0.out ?_
      · intro w hSw
        obtain ⟨hs0, hs1, hs2⟩ := hSw
        go_simp
      try simp only [Act.put, List.getElem_toArray, List.getElem_cons_zero, List.getElem_cons_succ, List.setIfInBounds_toArray, List.set_cons_zero, List.set_cons_succ]
      refine wpAnyH_take (i := 4) (v := .bool false) rfl (by kernel_rfl) (by kernel_rfl) (by kernel_rfl) (fun _ _ _ h => (h : False).elim) (Or.inl ⟨by rfl, ?_⟩) S0.out ?_
      · intro w hSw
        obtain ⟨hs0, hs1, hs2⟩ := hSw
        go_simp
      try simp only [Act.put, List.getElem_toArray, List.getElem_cons_zero, List.getElem_cons_succ, List.setIfInBounds_toArray, List.set_cons_zero, List.set_cons_succ]
      refine wpAnyH_take (i := 5) (v := .slice (some ⟨g, P.length * 5 + 5, none⟩) ysz (c - 1)) rfl (by kernel_rfl) (by kernel_rfl) (by kernel_rfl) (fun _ _ _ h => (h : False).elim) (Or.inl ⟨by rfl, ?_⟩) S0.out ?_
      · intro w hSw
        obtain ⟨hs0, hs1, hs2⟩ := hSw
        go_simp
      try simp only [Act.put, List.getElem_toArray, List.getElem_cons_zero, List.getElem_cons_succ, List.setIfInBounds_toArray, List.set_cons_zero, List.set_cons_succ]
      refine wpAnyH_take (i := 6) (v := .pointer (some ⟨g, P.length * 5 + 5, none⟩)) rfl (by kernel_rfl) (by kernel_rfl) (by kernel_rfl) (fun _ _ _ h => (h : False).elim) (Or.inl ⟨by rfl, ?_⟩) S0.out ?_
      · intro w hSw
        obtain ⟨hs0, hs1, hs2⟩ := hSw
        go_simp
      try simp only [Act.put, List.getElem_toArray, List.getElem_cons_zero, List.getElem_cons_succ, List.setIfInBounds_toArray, List.set_cons_zero, List.set_cons_succ]
      refine wpAnyH_take (i := 7) (v := .pointer (some ⟨g, P.length * 5 + 5 + 4, none⟩)) rfl (by kernel_rfl) (by kernel_rfl) (by kernel_rfl) (fun _ _ _ h => (h : False).elim) (Or.inl ⟨by rfl, ?_⟩) S0.out ?_
      · intro w hSw
        obtain ⟨hs0, hs1, hs2⟩ := hSw
        go_simp
      try simp only [Act.put, List.getElem_toArray, List.getElem_cons_zero, List.getElem_cons_succ, List.setIfInBounds_toArray, List.set_cons_zero, List.set_cons_succ]
      refine wpAnyH_ready (rs := [8]) (by kernel_rfl) (by simp) ?_
      refine AllReadyH.cons rfl (fun K hK => ?_) AllReadyH.nil
      go_simp
      refine hK.out _ _ S0.out (fun _ => ?_)
      try simp only [Act.put, List.getElem_toArray, List.getElem_cons_zero, List.getElem_cons_succ, List.setIfInBounds_toArray, List.set_cons_zero, List.set_cons_succ]
      refine wpAnyH_take (i := 9) (v := .bool (hd kf)) rfl (by kernel_rfl) (by kernel_rfl) (by kernel_rfl) (fun _ _ _ h => (h : False).elim) (Or.inl ⟨by rfl, ?_⟩) S0.out ?_
      · intro w hSw
        obtain ⟨hs0, hs1, hs2⟩ := hSw
        go_simp
      try simp only [Act.put, List.getElem_toArray, List.getElem_cons_zero, List.getElem_cons_succ, List.setIfInBounds_toArray, List.set_cons_zero, List.set_cons_succ]
      refine wpAnyH_ready (rs := [10]) (by kernel_rfl) (by simp) ?_
      refine AllReadyH.cons rfl (fun K hK => ?_) AllReadyH.nil
      go_simp
      refine HCALL.out.mono ?_
      rintro e w5 ⟨rfl, hm5, hch5⟩
      have CH : Hid (Ch g W0 w5) := Lib.hid ((Ch.of_below (Below.refl _ W0).drew).trans hch5)
      obtain ⟨⟨k1, k2⟩, k3, k4⟩ := HFIN.out w5 hm5 hch5
      have K4 := Lib.hid k4
      have k5 := (KEEP.out _ (CH.out.setCell (P.length * 5 + 4) (.bool (hd f')))).2.2
      clear hm5 hch5 k4
      refine hK.out _ _ (KEEP.out _ CH.out) (fun _ => ?_)
      try simp only [Act.put, List.getElem_toArray, List.getElem_cons_zero, List.getElem_cons_succ, List.setIfInBounds_toArray, List.set_cons_zero, List.set_cons_succ]
      refine wpAnyH_take (i := 11) (v := .pointer (some ⟨g, P.length * 5, none⟩)) rfl (by kernel_rfl) (by kernel_rfl) (by kernel_rfl) (fun _ _ _ h => (h : False).elim) (Or.inl ⟨by rfl, ?_⟩) (KEEP.out _ CH.out) ?_
      · intro w hSw
        obtain ⟨hs0, hs1, hs2⟩ := hSw
        go_simp
      try simp only [Act.put, List.getElem_toArray, List.getElem_cons_zero, List.getElem_cons_succ, List.setIfInBounds_toArray, List.set_cons_zero, List.set_cons_succ]
      refine wpAnyH_take (i := 12) (v := .pointer (some ⟨g, P.length * 5 + 4, none⟩)) rfl (by kernel_rfl) (by kernel_rfl) (by kernel_rfl) (fun _ _ _ h => (h : False).elim) (Or.inl ⟨by rfl, ?_⟩) (KEEP.out _ CH.out) ?_
      · intro w hSw
        obtain ⟨hs0, hs1, hs2⟩ := hSw
        go_simp
      try simp only [Act.put, List.getElem_toArray, List.getElem_cons_zero, List.getElem_cons_succ, List.setIfInBounds_toArray, List.set_cons_zero, List.set_cons_succ]
      refine wpAnyH_ready (rs := [13]) (by kernel_rfl) (by simp) ?_
      refine AllReadyH.cons rfl (fun K hK => ?_) AllReadyH.nil
      go_simp
      refine hK.out _ _ (KEEP.out _ (CH.out.setCell _ _)) (fun _ => ?_)
      try simp only [Act.put, List.getElem_toArray, List.getElem_cons_zero, List.getElem_cons_succ, List.setIfInBounds_toArray, List.set_cons_zero, List.set_cons_succ]
      refine ⟨by kernel_rfl, ?_⟩
      refine NoPanic.normal ?_
      go_wp2_with fail
      exact ⟨.bool (hd f'), by simp [results, Tryd.f63, go_sem], K4.out⟩
end Go.Proofs.YtnccgaanfjaimaaDoor

namespace Go.Proofs.YtnccgaanfjaimaaDoor
open Go.ChangeShapes Go.WideShapes Go.ChangeAt Go.RowKit
set_option linter.unusedVariables false
set_option linter.unusedSimpArgs false

theorem good_kind {x : X} (h : x.good) : x.kind = 1 ∨ x.kind = 2 ∨ (x.kind = 3 ∨ x.kind = 6) ∨ (x.kind = 4 ∨ x.kind = 5) := by
  have hf := h.fit
  unfold X.fits fitB at hf
  by_cases h1 : x.kind = 1
  · exact .inl h1
  · rw [if_neg h1] at hf
    by_cases h2 : x.kind = 2 ∨ x.kind = 3
    · rcases h2 with h2 | h2
      · exact .inr (.inl h2)
      · exact .inr (.inr (.inl (.inl h2)))
    · rw [if_neg h2] at hf
      by_cases h3 : x.kind = 4 ∨ x.kind = 5 ∨ x.kind = 6
      · rcases h3 with h3 | h3 | h3
        · exact .inr (.inr (.inr (.inl h3)))
        · exact .inr (.inr (.inr (.inr h3)))
        · exact .inr (.inr (.inl (.inr h3)))
      · rw [if_neg h3] at hf
        cases hf
theorem step_any : ∀ x : X, x.good → StepC x := by
  intro x
  induction x using X.ind' with
  | h x ih =>
    intro hg
    have ih' : ∀ y ∈ x.kids, StepC y := fun y hy => ih y hy (hg.kids y hy)
    rcases good_kind hg with h | h | h | h
    · exact step_label hg h
    · exact step_seq hg h ih'
    · exact step_alt hg h ih'
    · exact step_star hg h ih'

/-- the flags behind the first k labels of a word -/
def flW (x : X) (word : List ByteArray) : Nat → List Bool
  | 0 => List.replicate x.sz false
  | k + 1 => stepF ((word[k]?).getD ⟨#[]⟩) x (flW x word k) (decide (k = 0))
theorem flW_len {x : X} (hg : x.good) (word : List ByteArray) : ∀ k, (flW x word k).length = x.sz
  | 0 => by simp [flW]
  | k + 1 => by rw [flW]; exact stepF_len _ x hg _ _ (flW_len hg word k)
/-- does an expression take a word? -/
def takesB (x : X) (word : List ByteArray) : Bool := x.right && (hd (flW x word word.length) || (decide (word.length = 0) && x.emp))

/-- where no flag is there none comes but by a beginning -/
theorem stepF_none (s : ByteArray) : ∀ (x : X), x.good → ∀ (fl : List Bool), fl.length = x.sz → (∀ e ∈ fl, e = false) → ∀ e ∈ stepF s x fl false, e = false := by
  intro x
  induction x using X.ind' with
  | h x ih =>
    intro hg fl hl hf
    have hhd : ∀ (l : List Bool), (∀ e ∈ l, e = false) → hd l = false := fun l h => by
      cases l with
      | nil => rfl
      | cons a l => exact h a (by simp)
    have hrow : ∀ (ks : List X), (∀ y ∈ ks, y ∈ x.kids) → ∀ (kf : List Bool), kf.length = szL ks → (∀ e ∈ kf, e = false) → (rowS s ks kf false false).2.1 = false ∧ ∀ e ∈ (rowS s ks kf false false).2.2, e = false := by
      intro ks
      induction ks with
      | nil => intro _ kf _ _; rw [rowS_nil]; exact ⟨rfl, fun e h => by cases h⟩
      | cons y ys ihy =>
        intro hin kf hk hkf
        rw [szL_cons] at hk
        have h1 := ih y (hin y (by simp)) (hg.kids y (hin y (by simp))) (kf.take y.sz) (by rw [List.length_take]; omega) (fun e he => hkf e (List.mem_of_mem_take he))
        have h2 := ihy (fun z hz => hin z (by simp [hz])) (kf.drop y.sz) (by rw [List.length_drop]; omega) (fun e he => hkf e (List.mem_of_mem_drop he))
        rw [rowS_cons]
        rw [hhd _ (fun e he => hkf e (List.mem_of_mem_take he)), hhd _ h1]
        simp only [Bool.false_and, Bool.or_self]
        refine ⟨h2.1, fun e he => ?_⟩
        rcases List.mem_append.1 he with he | he
        · exact h1 e he
        · exact h2.2 e he
    have halt : ∀ (ks : List X), (∀ y ∈ ks, y ∈ x.kids) → ∀ (kf : List Bool), kf.length = szL ks → (∀ e ∈ kf, e = false) → (altS s ks kf false false).1 = false ∧ ∀ e ∈ (altS s ks kf false false).2, e = false := by
      intro ks
      induction ks with
      | nil => intro _ kf _ _; rw [altS_nil]; exact ⟨rfl, fun e h => by cases h⟩
      | cons y ys ihy =>
        intro hin kf hk hkf
        rw [szL_cons] at hk
        have h1 := ih y (hin y (by simp)) (hg.kids y (hin y (by simp))) (kf.take y.sz) (by rw [List.length_take]; omega) (fun e he => hkf e (List.mem_of_mem_take he))
        have h2 := ihy (fun z hz => hin z (by simp [hz])) (kf.drop y.sz) (by rw [List.length_drop]; omega) (fun e he => hkf e (List.mem_of_mem_drop he))
        rw [altS_cons]
        rw [hhd _ h1]
        simp only [Bool.or_self]
        refine ⟨h2.1, fun e he => ?_⟩
        rcases List.mem_append.1 he with he | he
        · exact h1 e he
        · exact h2.2 e he
    have htl : fl.tail.length = szL x.kids := by rw [List.length_tail, hl, X.sz_eq]; omega
    have htf : ∀ e ∈ fl.tail, e = false := fun e he => hf e (List.mem_of_mem_tail he)
    obtain ⟨r1, r2⟩ := hrow x.kids (fun y hy => hy) fl.tail htl htf
    obtain ⟨a1, a2⟩ := halt x.kids (fun y hy => hy) fl.tail htl htf
    rw [stepF_eq]
    intro e he
    split at he
    · rcases List.mem_cons.1 he with rfl | he
      · rfl
      · exact htf e he
    · split at he
      · rcases List.mem_cons.1 he with rfl | he
        · exact r1
        · exact r2 e he
      · split at he
        · rcases List.mem_cons.1 he with rfl | he
          · exact a1
          · exact a2 e he
        · rw [hhd _ htf] at he
          simp only [Bool.or_self] at he
          rcases List.mem_cons.1 he with rfl | he
          · exact hhd _ a2
          · exact a2 e he
theorem flW_dead {x : X} (hg : x.good) {word : List ByteArray} {k : Nat} (h0 : 0 < k) (h : ∀ e ∈ flW x word k, e = false) : ∀ n, k ≤ n → ∀ e ∈ flW x word n, e = false := by
  intro n hn
  induction n with
  | zero => omega
  | succ n ih =>
    by_cases hk : k = n + 1
    · subst hk; exact h
    · rw [flW, decide_eq_false (by omega)]
      exact stepF_none _ x hg _ (flW_len hg word n) (ih (by omega))
theorem hd_false {l : List Bool} (h : ∀ e ∈ l, e = false) : hd l = false := by
  cases l with
  | nil => rfl
  | cons a l => exact h a (by simp)
theorem right_good {x : X} (h : x.right = true) : x.good ∧ x.sz ≤ 24 := by
  unfold X.right at h
  rw [Bool.and_eq_true, decide_eq_true_eq, List.all_eq_true] at h
  exact ⟨h.2, h.1⟩

/-- the slice v holds just the texts of l; all lies in blocks below B -/
def SR (B : Nat) (w : World) (v : Value) (l : List ByteArray) : Prop :=
  ∃ A c, v = .slice A l.length c ∧ (0 < l.length → ∃ ad, A = some ad ∧ ad.block < B ∧ ∀ k (h : k < l.length), w.cell? (ad.add k) = some (.string l[k]))
theorem SR.bel {B : Nat} {w w' : World} {v : Value} {l : List ByteArray} (h : SR B w v l) (hb : Below B w w') : SR B w' v l := by
  obtain ⟨A, c, rfl, h⟩ := h
  refine ⟨A, c, rfl, fun hn => ?_⟩
  obtain ⟨ad, rfl, hg, hc⟩ := h hn
  exact ⟨ad, rfl, hg, fun k hlt => (World.cell?_of_block (a := ad.add k) (by rw [block_add]; exact hb.block _ hg)).trans (hc k hlt)⟩

theorem SL_rep (x : X) (e : Bool) : SL x (List.replicate x.sz e) = x.parts.map (spX e) := by
  unfold SL X.sz
  generalize x.parts = l
  induction l with
  | nil => rfl
  | cons a l ih => rw [List.length_cons, List.replicate_succ, List.zipWith_cons_cons, ih]; rfl
theorem spots_mem {w : World} {base : Nat} {sv : Value} {x : X} (h : w.ownsRow base 94 5 sv x.sz (flatS (x.parts.map (spX false)))) : ∃ g cap, sv = .slice (some ⟨g, 0, none⟩) x.sz cap ∧ base ≤ g ∧ SpM w g (SL x (List.replicate x.sz false)) ∧ x.sz ≤ cap := by
  have hp := x.sz_pos
  rcases h.2 with ⟨_, h0⟩ | ⟨g, cap, cur, rfl, hb, hg, hc, _, _, ht⟩
  · omega
  · refine ⟨g, cap, rfl, hb, ⟨cur, hg, fun j u hj => ?_⟩, hc⟩
    rw [SL_rep, ← ht] at hj
    have hlt := (List.getElem?_eq_some_iff.1 hj).1
    rw [List.length_take] at hlt
    rw [List.getElem?_take_of_lt (by omega)] at hj
    simpa using hj

set_option maxRecDepth 100000 in
set_option maxHeartbeats 4000000 in
theorem takes20_any {N M : Nat} {w : World} {v wv : Value} {x : X} {word : List ByteArray} (hx : XV N w v x) (hN : N ≤ w.heap.size) (hsz : x.sz ≤ 100000) (hl : x.lit) (hw : SR M w wv word) (hM : M ≤ w.heap.size) (hwl : word.length ≤ 100000) :
    Calls Tryd.prog 39 #[v, wv] w fun e w' => e = .returned (.bool (takesB x word)) ∧ Below w.heap.size w w' := by
  have hR := fun w' (hb : Below w.heap.size w w') => right12_any (hx.bel (hb.mono hN)) (Nat.le_trans hN hb.size) hsz hl
  have HXB := Lib.hid (fun w' (hb : Below w.heap.size w w') => hx.bel (hb.mono hN))
  have HW := Lib.hid (fun w' (hb : Below w.heap.size w w') => hw.bel (hb.mono hM))
  obtain ⟨kv, rfl, hxr⟩ := hx
  obtain ⟨A, c, rfl⟩ := hxr.form
  obtain ⟨A2, c2, rfl, -⟩ := hw
  have hb0 : Below w.heap.size w (w.alloc (.cells #[.int .i64 x.kind, .string x.lab, .slice A x.kids.length c] 25)) := (Below.refl _ w).alloc (Nat.le_refl _) _
  have HB0 := Lib.hid hb0
  clear hb0 hxr
  obtain ⟨n, hn⟩ : ∃ n, word.length = n := ⟨_, rfl⟩
  have HN := Lib.hid hn
  rw [hn] at hwl ⊢
  clear hn
  cases hr : x.right with
  | false =>
    have HRT := Lib.hid hr
    have HR := Lib.hid (hR _ HB0.out)
    rw [hr] at HR
    clear hR
    go_enter Tryd.func39, Tryd.ntmps39
    go_wp2_with fail
    go_step3
    go_wp2_with (go_at_call 37; refine HR.out.mono ?_; rintro e w1 ⟨rfl, hb1⟩; have HB1 := Lib.hid (HB0.out.trans (hb1.mono HB0.out.size)); clear hb1)
    rw [Exit.noGoto_ret]
    go_ret
    exact ⟨by unfold takesB; rw [HRT.out]; rfl, HB1.out⟩
  | true =>
    have HRT := Lib.hid hr
    have HR := Lib.hid (hR _ HB0.out)
    rw [hr] at HR
    clear hR
    obtain ⟨hg, h24⟩ := right_good hr
    have HG := Lib.hid hg
    clear hr hg
    go_enter Tryd.func39, Tryd.ntmps39
    go_wp2_with fail
    go_step3
    go_wp2_with (first
      | (go_at_call 37; refine HR.out.mono ?_; rintro e w1 ⟨rfl, hb1⟩; have HB1 := Lib.hid (HB0.out.trans (hb1.mono HB0.out.size)); obtain ⟨d0, d1, d2⟩ := box_cells (w := w) (W := w1) (by simpa using hb1); clear hb1)
      | (go_at_call 62; refine (spots_any (HXB.out _ HB1.out) (Nat.le_trans hN HB1.out.size) (by omega)).mono ?_; rintro e w2 ⟨sv, rfl, hrow, hb2⟩; obtain ⟨g, cp, rfl, hgb, hsm, hcp⟩ := spots_mem hrow; have HSM := Lib.hid hsm; have hgw := Nat.le_trans HB1.out.size hgb; have HB2 := Lib.hid (HB1.out.trans (hb2.mono HB1.out.size)); clear hrow hb2 hsm hgb))
    go_step3
    go_wp2_with fail
    have hxp := x.sz_pos
    have hxi : (0 : Int) < (x.sz : Int) := by omega
    clear d0 d1 d2
    go_loopw [17] (fun i wr => ∃ k : Nat, k ≤ n ∧ i = .int .i64 k ∧ SpM wr g (SL x (flW x word k)) ∧ Ch g w2 wr) (fun i _ => n - (intOf i).toNat)
    case atStart => exact ⟨0, Nat.zero_le _, rfl, by rw [flW]; exact HSM.out, Ch.refl _ _⟩
    case round =>
      obtain ⟨k, hk, rfl, hsm, hch⟩ := hrel
      have hbw : Below w.heap.size w wr := HB2.out.trans (hch.below HB2.out.size hgw)
      by_cases hlt : k < n
      · have e1 : k < word.length := by have := HN.out; omega
        obtain ⟨A', c', eA, hcell⟩ := HW.out wr hbw
        injection eA with e2 e3 e4
        subst e2 e4
        obtain ⟨ad, rfl, _, hck⟩ := hcell (by omega)
        have hc0 := hck k e1
        obtain ⟨lb, hlb⟩ : ∃ lb, word[k] = lb := ⟨_, rfl⟩
        rw [hlb] at hc0
        have hfl : flW x word (k + 1) = stepF lb x (flW x word k) (decide (k = 0)) := by rw [flW, List.getElem?_eq_getElem e1, hlb]; rfl
        have hstep := step_any x HG.out g [] [] (flW x word k) cp lb (decide (k = 0)) wr (flW_len HG.out word k) (by simpa using hsm) hcp (by simp; omega)
        rw [← hfl] at hstep
        simp only [List.length_nil, Nat.zero_mul] at hstep
        have HST := Lib.hid hstep
        have HSC := Lib.hid (And.intro hsm hch)
        have hln := flW_len HG.out word (k + 1)
        have HF1 := Lib.hid (show ∃ F, flW x word (k + 1) = F from ⟨_, rfl⟩)
        obtain ⟨F, hF⟩ := HF1.out
        have HF := Lib.hid hF
        rw [hF] at hln HST
        clear hsm hch hbw hck hcell hlb hfl hstep hF HF1
        have hkk : (((k : Int) == 0) = decide (k = 0)) := by
          by_cases h : k = 0 <;> simp [h]
        go_wp2_with (go_at_call 63; first | (refine HST.out.mono ?_; rintro e w3 ⟨rfl, hm3, hc3⟩; have HM3 := Lib.hid (And.intro hm3 (HSC.out.2.trans hc3)); clear hm3 hc3))
        go_loopw [29] (fun i wq => ∃ j : Nat, j ≤ x.sz ∧ i = .int .i64 j ∧ (∀ q, q < j → F[q]? = some false) ∧ Below w3.heap.size w3 wq) (fun i _ => x.sz - (intOf i).toNat)
        case atStart => exact ⟨0, Nat.zero_le _, rfl, fun q hq => absurd hq (Nat.not_lt_zero _), Below.refl _ _⟩
        case round =>
          obtain ⟨j, hj, rfl, hpre, hbq⟩ := hrel
          have hmq := HM3.out.1.bel hbq
          simp only [List.nil_append, List.append_nil] at hmq
          have HQ := Lib.hid (And.intro hmq (And.intro hpre hbq))
          clear hpre hbq
          by_cases hjs : j < x.sz
          · have hjF : j < F.length := by omega
            have hjL : j < (SL x F).length := by rw [SL_len hln]; exact hjs
            obtain ⟨y0, y1, y2, y3, y4⟩ := hmq.at5 hjL
            have hej : (SL x F)[j].ends = F[j] := by simp [SL, spX]
            rw [hej] at y4
            generalize (SL x F)[j] = sj at *
            clear hmq
            cases hFj : F[j] with
            | true =>
              rw [hFj] at y4
              clear hFj
              go_wp2_with fail
              go_roundw
              case rel => exact ⟨k + 1, by omega, by go_num, by rw [HF.out]; exact HQ.out.1.bel ((Below.refl _ wr).alloc (Nat.le_refl _) _), (HM3.out.2.trans (Ch.of_below HQ.out.2.2)).trans (Ch.of_below ((Below.refl _ wr).alloc (Nat.le_refl _) _))⟩
              case measure => simp [intOf]; omega
            | false =>
              rw [hFj] at y4
              have HFJ := Lib.hid hFj
              clear hFj
              go_wp2_with fail
              go_roundw
              case rel =>
                refine ⟨j + 1, by omega, by go_num, fun q hq => ?_, HQ.out.2.2.trans (((Below.refl _ wr).alloc (Nat.le_refl _) _).mono HQ.out.2.2.size)⟩
                by_cases hqj : q = j
                · subst hqj
                  rw [List.getElem?_eq_getElem hjF, HFJ.out]
                · exact HQ.out.2.1 q (by omega)
              case measure => simp [intOf]; omega
          · have hjz : j = x.sz := by omega
            have hdead : ∀ e ∈ F, e = false := fun e he => by
              obtain ⟨q, hq, rfl⟩ := List.mem_iff_getElem.1 he
              have := HQ.out.2.1 q (by omega)
              rw [List.getElem?_eq_getElem hq] at this
              injection this
            have hres : takesB x word = false := by
              unfold takesB
              rw [← HF.out] at hdead
              have h1 := flW_dead HG.out (by omega) hdead word.length (by have := HN.out; omega)
              rw [hd_false h1, decide_eq_false (by have := HN.out; omega)]
              simp
            have HRES := Lib.hid (And.intro hres (HB2.out.trans ((HM3.out.2.trans (Ch.of_below HQ.out.2.2)).below HB2.out.size hgw)))
            clear hmq hdead hres
            go_wp2_with fail
            try rw [Exit.noGoto_ret]
            go_ret
            exact ⟨by rw [HRES.out.1]; rfl, HRES.out.2⟩
      · have hkn : k = n := by omega
        subst hkn
        have hfl := flW_len HG.out word k
        obtain ⟨e0, fk, hfk⟩ : ∃ e0 fk, flW x word k = e0 :: fk := List.exists_cons_of_length_pos (by omega)
        rw [hfk, SL_cons] at hsm
        have hsm' : SpM wr g ([] ++ spX e0 x :: (SLs x.kids fk ++ [])) := by simpa using hsm
        obtain ⟨-, -, -, y3, y4⟩ := hsm'.at0
        simp only [List.length_nil, Nat.zero_mul, Nat.zero_add, spX] at y3 y4
        have hres : takesB x word = (e0 || (decide (k = 0) && x.emp)) := by
          unfold takesB
          rw [HRT.out, HN.out, hfk]
          rfl
        have HRES := Lib.hid (And.intro hres hbw)
        clear hres hsm hsm' hfk hbw hch
        generalize x.emp = em at *
        rcases Bool.eq_false_or_eq_true e0 with rfl | rfl
        · go_wp2_with fail
          try rw [Exit.noGoto_ret]
          go_ret
          exact ⟨by rw [HRES.out.1]; rfl, HRES.out.2⟩
        · rcases Nat.eq_zero_or_pos k with h0 | h0
          · subst h0
            go_wp2_with fail
            try rw [Exit.noGoto_ret]
            go_ret
            exact ⟨by rw [HRES.out.1]; simp, HRES.out.2⟩
          · have h0' : (k : Int) ≠ 0 := by omega
            go_wp2_with fail
            try rw [Exit.noGoto_ret]
            go_ret
            exact ⟨by rw [HRES.out.1, decide_eq_false (by omega)]; rfl, HRES.out.2⟩
end Go.Proofs.YtnccgaanfjaimaaDoor

namespace Go.Proofs.YtnccgaanfjaimaaDoor
open Go.ChangeShapes Go.WideShapes Go.ChangeAt Go.RowKit Go.Deep Go.Joins
set_option linter.unusedVariables false
set_option linter.unusedSimpArgs false

theorem own : ownKnob Tryd.prog.godebug = none := by kernel_rfl
theorem laidB : laidOutB Tryd.prog = true := by kernel_rfl
theorem cells9 : Tryd.prog.cellsOf 9 = 1 := by kernel_rfl
theorem cells22 : Tryd.prog.cellsOf 22 = 1 := by kernel_rfl
theorem cells23 : Tryd.prog.cellsOf 23 = 1 := by kernel_rfl
theorem cells25 : Tryd.prog.cellsOf 25 = 3 := by kernel_rfl
theorem read25 : Tryd.prog.readableRec 25 = true := by kernel_rfl
theorem read26 : Tryd.prog.readableRec 41 = true := by kernel_rfl
theorem lt25 : 25 < Tryd.prog.types.size := of_decide_eq_true (by kernel_rfl)
theorem lt26 : 41 < Tryd.prog.types.size := of_decide_eq_true (by kernel_rfl)
theorem bytes9 : Tryd.prog.bytesOf 9 = 16 := by kernel_rfl
theorem weightsAll_mem {H : Type} {P : Program} {e : TypeId} : ∀ {ds : List (DataW H)} {d : DataW H} {n : Nat}, d ∈ ds → n ∈ d.weights P e → n ∈ DataW.weightsAll P e ds
  | x :: r, d, n, hd, hn => by
    simp only [DataW.weightsAll, List.mem_append]
    rcases List.mem_cons.1 hd with rfl | hd
    · exact .inl hn
    · exact .inr (weightsAll_mem hd hn)
theorem len3 {α : Type} {cs : List α} (h : cs.length = 3) : ∃ v0 v1 v2, cs = [v0, v1, v2] := by
  match cs, h with
  | [a, b, c], _ => exact ⟨a, b, c, rfl⟩
theorem pick_lt {α : Type} [Inhabited α] {p : Nat → α → Prop} {n : Nat} (h : ∀ i, i < n → ∃ y, p i y) : ∃ f : Nat → α, ∀ i, i < n → p i (f i) := by
  have hch : ∀ i, ∃ y, i < n → p i y := fun i => by
    by_cases hi : i < n
    · obtain ⟨y, hy⟩ := h i hi
      exact ⟨y, fun _ => hy⟩
    · exact ⟨default, fun h => absurd h hi⟩
  exact ⟨fun i => (hch i).choose, fun i hi => (hch i).choose_spec hi⟩
instance : Inhabited X := ⟨.mk 0 ⟨#[]⟩ []⟩

set_option maxRecDepth 100000 in
theorem open_cells25 {H : Type} {enc : TypeId × Value → H} {w : World} {fuel : Nat} {cs : List Value} {x : DataW H × List MemPlace} (h : DataW.trod enc Tryd.prog w 0 (fun _ => true) true fuel 25 cs = some x) :
    ∃ n k s V y, fuel = n + 1 ∧ cs = [.int .i64 k, .string s, V] ∧ DataW.trod enc Tryd.prog w 0 (fun _ => true) true n 23 [V] = some y ∧ (∀ m ∈ y.1.weights Tryd.prog 23, m ∈ x.1.weights Tryd.prog 25) ∧ s.size ∈ x.1.weights Tryd.prog 25 := by
  obtain ⟨xs, n, hfu, rfl, hl, hlen, hf⟩ := DataW.trod_struct Tryd.underlying25 h
  match xs, hlen with
  | [y0, y1, y2], _ =>
    rw [cells25] at hl
    obtain ⟨v0, v1, v2, rfl⟩ := len3 hl
    have h0 := hf 0 _ rfl
    have h1 := hf 1 _ rfl
    have h2 := hf 2 _ rfl
    simp only [cells9, cells22, cells23, List.drop_zero, List.drop_succ_cons, List.take_succ_cons, List.take_zero, List.getElem?_cons_zero, List.getElem?_cons_succ] at h0 h1 h2
    obtain ⟨k0, f0, g0, _⟩ := DataW.trod_int Tryd.underlying22 h0
    obtain ⟨s1, f1, t1, _⟩ := DataW.trod_string Tryd.underlying9 h1
    injection f0 with f0
    injection f1 with f1
    subst f0 f1
    refine ⟨n, k0, s1, v2, y2, hfu, rfl, h2, fun m hm => ?_, ?_⟩
    · simp only [List.map_cons, List.map_nil, DataW.weights, Tryd.underlying25]
      simp [DataW.weightsEach, hm]
    · simp only [List.map_cons, List.map_nil, DataW.weights, Tryd.underlying25]
      simp [DataW.weightsEach, t1, DataW.weights]

set_option maxRecDepth 100000 in
/-- a row of expressions among the arguments -/
theorem open_exprs {H : Type} {enc : TypeId × Value → H} {w : World} : ∀ (fuel : Nat) (V : Value) (x : DataW H × List MemPlace), DataW.trod enc Tryd.prog w 0 (fun _ => true) true fuel 23 [V] = some x →
    ∃ l, XR w.heap.size w V l ∧ ((∀ n ∈ x.1.weights Tryd.prog 23, n ≤ reachBytes) → ∀ p ∈ partsL l, p.lab.size ≤ reachBytes) := by
  intro fuel
  induction fuel using Nat.strongRecOn with
  | ind fuel ih =>
    intro V x h
    rcases DataW.trod_slice Tryd.underlying23 h with ⟨hcs, hx⟩ | ⟨a, len, cap, elems, rest, n, rfl, hcs, rfl, hb, hl, hm, hlen, hel, _, _⟩
    · obtain rfl : V = .slice none 0 0 := by simpa using hcs
      exact ⟨[], XR.nil _ _ _ _, fun _ p hp => by rw [partsL_nil] at hp; cases hp⟩
    · obtain rfl : V = .slice (some a) len cap := by simpa using hcs
      rw [cells25] at hel
      have step : ∀ i, i < len → ∃ (q : X × Value), (w.cell? (a.add (i * 3)) = some (.int .i64 q.1.kind) ∧ w.cell? (a.add (i * 3 + 1)) = some (.string q.1.lab) ∧ w.cell? (a.add (i * 3 + 2)) = some q.2) ∧ XR w.heap.size w q.2 q.1.kids ∧
          ((∀ n ∈ DataW.weightsAll Tryd.prog 25 (elems.map (·.1)), n ≤ reachBytes) → ∀ p ∈ q.1.parts, p.lab.size ≤ reachBytes) := by
        intro i hi
        have h1 := hel i hi
        rw [List.getElem?_eq_getElem (by omega)] at h1
        obtain ⟨cs', h2, h3⟩ := Option.bind_eq_some_iff.1 h1
        obtain ⟨n', k, s, V', y, rfl, rfl, h4, h5, h6⟩ := open_cells25 h3
        obtain ⟨_, hlen', hcell⟩ := World.cells?_some h2
        have e0 := hcell 0 (by omega)
        have e1 := hcell 1 (by omega)
        have e2 := hcell 2 (by omega)
        rw [add_of_add] at e0 e1 e2
        obtain ⟨l, hl1, hl2⟩ := ih n' (by omega) V' y h4
        refine ⟨(.mk k s l, V'), ⟨by simpa [X.kind] using e0, by simpa [X.lab] using e1, by simpa using e2⟩, hl1, fun hw p hp => ?_⟩
        have hw' : ∀ m ∈ (elems[i]).1.weights Tryd.prog 25, m ≤ reachBytes := fun m hm => hw m (weightsAll_mem (List.mem_map.2 ⟨elems[i], List.getElem_mem _, rfl⟩) hm)
        rw [X.parts_eq] at hp
        rcases List.mem_cons.1 hp with rfl | hp
        · exact hw' _ h6
        · exact hl2 (fun m hm => hw' m (h5 m hm)) p hp
      obtain ⟨Lf, hLf⟩ := pick_lt step
      have hlen2 : ((List.range len).map fun i => (Lf i).1).length = len := by simp
      refine ⟨(List.range len).map fun i => (Lf i).1, ?_, fun hw p hp => ?_⟩
      · have := XR.mk (B := w.heap.size) (w := w) (some a) cap ((List.range len).map fun i => (Lf i).1) a (fun i => (Lf i).2) (by rw [hlen2]; exact hl) (fun h0 => ⟨rfl, by
            rw [hlen2] at h0
            have := World.block_lt_of_cell? _ _ (hLf 0 h0).1.1
            rwa [block_add] at this⟩)
          (fun i hi => by rw [hlen2] at hi; simpa using (hLf i hi).1.1) (fun i hi => by rw [hlen2] at hi; simpa using (hLf i hi).1.2.1) (fun i hi => by rw [hlen2] at hi; exact (hLf i hi).1.2.2) (fun i hi => by rw [hlen2] at hi; simpa using (hLf i hi).2.1)
        rwa [hlen2] at this
      · have hq : ∃ i, i < len ∧ p ∈ (Lf i).1.parts := by
          clear hlen2
          have : ∀ is : List Nat, (∀ i ∈ is, i < len) → p ∈ partsL (is.map fun i => (Lf i).1) → ∃ i, i < len ∧ p ∈ (Lf i).1.parts := by
            intro is
            induction is with
            | nil => intro _ h; rw [List.map_nil, partsL_nil] at h; cases h
            | cons i is ihh =>
              intro hi h
              rw [List.map_cons, partsL_cons] at h
              rcases List.mem_append.1 h with h | h
              · exact ⟨i, hi i (by simp), h⟩
              · exact ihh (fun j hj => hi j (by simp [hj])) h
          exact this _ (fun i hi => List.mem_range.1 hi) hp
        obtain ⟨i, hi, hpi⟩ := hq
        refine (hLf i hi).2.2 (fun m hm => hw m ?_) p hpi
        simp only [DataW.weights, Tryd.underlying23, List.mem_cons, List.mem_append]
        exact .inr (.inl hm)

set_option maxRecDepth 100000 in
/-- an expression among the arguments -/
theorem open_expr {H : Type} {enc : TypeId × Value → H} {W : World} {v : Value} {d : DataW H} {p : List MemPlace} {base : Nat} (hv : Value.okWide Tryd.prog W .any base 25 v) (h : DataW.Trod enc Tryd.prog W 0 (fun _ => true) true 25 v d p) :
    ∃ x : X, XV W.heap.size W v x ∧ ((∀ n ∈ d.weights Tryd.prog 25, n ≤ reachBytes) → x.lit) := by
  obtain ⟨cs, rfl, hsz⟩ := okWide_struct Tryd.underlying25 hv
  obtain ⟨fuel, hf⟩ := h
  obtain ⟨n, k, s, V, y, rfl, hcs, h1, h2, h3⟩ := open_cells25 hf
  obtain ⟨l, hl1, hl2⟩ := open_exprs n V y h1
  rw [cells25] at hsz
  obtain ⟨L⟩ := cs
  obtain ⟨c0, c1, c2, rfl⟩ := len3 (cs := L) hsz
  have hr := reachBytes_lt
  have hml : maxLen = 2 ^ 63 - 1 := rfl
  have hc : c0 = .int .i64 k ∧ c1 = .string s ∧ c2 = V := by
    simpa [Value.cells] using hcs
  obtain ⟨rfl, rfl, rfl⟩ := hc
  refine ⟨.mk k s l, ⟨_, rfl, hl1⟩, fun hw q hq => ?_⟩
  rw [X.parts_eq] at hq
  rcases List.mem_cons.1 hq with rfl | hq
  · exact Nat.le_trans (hw _ h3) (by omega)
  · exact Nat.le_trans (hl2 (fun m hm => hw m (h2 m hm)) q hq) (by omega)

set_option maxRecDepth 100000 in
theorem open_texts {H : Type} {enc : TypeId × Value → H} {w : World} {n : Nat} {V : Value} {x : DataW H × List MemPlace} (h : DataW.trod enc Tryd.prog w 0 (fun _ => true) true n 41 [V] = some x) :
    ∃ l, SR w.heap.size w V l ∧ (∀ A m c, V = .slice A m c → m ≤ c) ∧ ((∀ n ∈ x.1.weights Tryd.prog 41, n ≤ reachBytes) → l.length ≤ reachBytes ∧ ∀ s ∈ l, s.size ≤ reachBytes) := by
  rcases open_slice1 Tryd.underlying41 cells9 h with ⟨hcs, hx⟩ | ⟨a, len, cap, m, n', Vs, D, Pl, hcs, _, hl, hm, hmm, rfl, hx⟩
  · obtain rfl : V = .slice none 0 0 := by simpa using hcs
    exact ⟨[], ⟨none, 0, rfl, fun h => absurd h (by simp)⟩, fun A m c e => by injection e with _ e1 e2; omega, fun _ => ⟨Nat.zero_le _, fun s hs => by cases hs⟩⟩
  · obtain rfl : V = .slice (some a) len cap := by simpa using hcs
    simp only [if_true] at hmm
    subst hmm
    obtain ⟨Lf, hLf⟩ := pick_lt (α := ByteArray) (p := fun i s => Vs i = .string s ∧ s.size ∈ (D i).weights Tryd.prog 9) (n := len) (fun i hi => by
      obtain ⟨s0, f0, t0, _⟩ := DataW.trod_string Tryd.underlying9 (hx i (by omega)).2
      injection f0 with f0
      refine ⟨s0, f0, ?_⟩
      have t1 : D i = _ := congrArg Prod.fst t0
      rw [t1]
      simp [DataW.weights])
    have hlen : ((List.range len).map Lf).length = len := by simp
    refine ⟨(List.range len).map Lf, ⟨some a, m, by rw [hlen], fun hn => ⟨a, rfl, ?_, fun k hk => ?_⟩⟩, fun A m c e => by injection e with _ e1 e2; omega, fun hw => ⟨?_, fun s hs => ?_⟩⟩
    · rw [hlen] at hn
      have := World.block_lt_of_cell? _ _ (hx 0 (by omega)).1
      rwa [block_add] at this
    · rw [hlen] at hk
      rw [(hx k (by omega)).1, (hLf k hk).1]
      simp
    · have h1 := hw (((List.map D (List.range len)).length + (List.map (fun j => D (len + j)) (List.range (m - len))).length) * Tryd.prog.bytesOf 9) (by simp [DataW.weights, Tryd.underlying41])
      rw [bytes9] at h1
      simp at h1
      rw [hlen]
      omega
    · obtain ⟨i, hi, rfl⟩ := List.mem_map.1 hs
      rw [List.mem_range] at hi
      refine hw _ ?_
      simp only [DataW.weights, Tryd.underlying41, List.mem_cons, List.mem_append]
      exact .inr (.inl (weightsAll_mem (List.mem_map.2 ⟨i, List.mem_range.2 hi, rfl⟩) (hLf i hi).2))

/-- arguments that are only read, a plain result -/
theorem post_read {H : Type} {enc : TypeId × Value → H} {P : Program} {f : Func} {s : ChangeSpec} {W W' : World} {args : Array Value} {v : Value} {ds gs : List (DataW H)} {before pa pv : List MemPlace}
    (hW : DataW.Whole enc P f.params.toList s.vars false W args.toList ds gs before)
    (hres : ∀ (b : Nat) (sp : Nat → Bool) (hd : Bool), DataW.TrodAll enc P W' b sp hd f.resultTypes.toList (v.resultList f.resultTypes.size) (s.fn H (ds ++ gs)).results [])
    (hargs : DataW.TrodAll enc P W' 0 (fun b => decide (b < W.heap.size)) true f.params.toList args.toList (s.fn H (ds ++ gs)).args pa)
    (hvars : DataW.TrodVars enc P W' (fun b => decide (b < W.heap.size)) s.vars (s.fn H (ds ++ gs)).vars pv)
    (hps : before = pa ++ pv) (hb : Below W.heap.size W W') : s.post enc P f false true false false W args v W' := by
  refine ⟨ds, gs, before, [], pa, pv, hW, hres _ _ _, hargs, hvars, World.keptBut_mono (fun p hp => ⟨hp, ?_⟩) (hb.frame (· ∈ before)), fun h => by cases h⟩
  rw [hps, List.mem_append] at hp
  exact .inr hp
end Go.Proofs.YtnccgaanfjaimaaDoor

namespace Go.Proofs.YtnccgaanfjaimaaDoor
open Go.ChangeShapes Go.WideShapes Go.ChangeAt Go.RowKit
set_option linter.unusedVariables false
set_option linter.unusedSimpArgs false

/-- the places of a set, rising -/
def els (s : Nat) : List Nat := (List.range 32).filter fun p => s.testBit p
theorem mem_els {s p : Nat} : p ∈ els s ↔ p < 32 ∧ s.testBit p = true := by simp [els]
theorem els_zero : els 0 = [] := by simp [els]
theorem els_len (s : Nat) : (els s).length ≤ 32 := by
  unfold els
  exact Nat.le_trans (List.length_filter_le _ _) (by simp)
theorem lt_of_bits {s n : Nat} (h : ∀ i, n ≤ i → s.testBit i = false) : s < 2 ^ n := Nat.lt_pow_two_of_testBit s h
theorem bit_false {s n i : Nat} (h : s < 2 ^ n) (hi : n ≤ i) : s.testBit i = false := Nat.testBit_lt_two_pow (Nat.lt_of_lt_of_le h (Nat.pow_le_pow_right (by decide) hi))
/-- the lowest one, and the others -/
theorem els_low {s k m : Nat} (hs : s = 2 ^ k * (2 * m + 1)) (hk : k < 32) : els s = k :: els (s &&& (s - 1)) := by
  have h1 : s - 1 = 2 ^ k * (2 * m) + (2 ^ k - 1) := by
    have : 0 < 2 ^ k := Nat.two_pow_pos k
    rw [hs, Nat.mul_add]
    omega
  have hb : 2 ^ k - 1 < 2 ^ k := by have : 0 < 2 ^ k := Nat.two_pow_pos k; omega
  have t1 : ∀ i, s.testBit i = if i < k then false else (2 * m + 1).testBit (i - k) := by
    intro i
    rw [hs, Nat.mul_comm, Nat.testBit_mul_two_pow]
    by_cases h : i < k
    · rw [if_pos h]; simp; omega
    · rw [if_neg h]; simp; omega
  have t2 : ∀ i, (s - 1).testBit i = if i < k then (2 ^ k - 1).testBit i else (2 * m).testBit (i - k) := by
    intro i
    rw [h1, Nat.testBit_two_pow_mul_add _ hb]
  have t3 : ∀ i, (s &&& (s - 1)).testBit i = (decide (k < i) && s.testBit i) := by
    intro i
    rw [Nat.testBit_and, t1, t2]
    by_cases h : i < k
    · simp [h]
    · simp only [h, if_false]
      by_cases h2 : i = k
      · subst h2; simp
      · have e : i - k = (i - k - 1) + 1 := by omega
        rw [e, Nat.testBit_succ, Nat.testBit_succ]
        have d1 : (2 * m + 1) / 2 = m := by omega
        have d2 : 2 * m / 2 = m := by omega
        have d3 : k < i := by omega
        simp [d1, d2, d3]
  have hr : List.range 32 = List.range k ++ k :: List.range' (k + 1) (31 - k) := by
    rw [List.range_eq_range', List.range_eq_range', show (32 : Nat) = k + (1 + (31 - k)) by omega, ← List.range'_append_1, Nat.zero_add, ← List.range'_append_1]
    simp
  unfold els
  rw [hr, List.filter_append, List.filter_append, List.filter_cons, List.filter_cons]
  have f1 : (List.range k).filter (fun p => s.testBit p) = [] := by
    rw [List.filter_eq_nil_iff]; intro a ha; rw [t1]; simp at ha; simp [ha]
  have f2 : (List.range k).filter (fun p => (s &&& (s - 1)).testBit p) = [] := by
    rw [List.filter_eq_nil_iff]; intro a ha; rw [t3]; simp at ha ⊢; omega
  have f3 : s.testBit k = true := by rw [t1]; simp
  have f4 : (s &&& (s - 1)).testBit k = false := by rw [t3]; simp
  rw [f1, f2, f3, f4]
  simp only [if_true, List.nil_append, Bool.false_eq_true, if_false]
  congr 1
  refine List.filter_congr fun a ha => ?_
  rw [t3]
  have : k < a := by have := List.mem_range'_1.1 ha; omega
  simp [this]
theorem els_step {s : Nat} (h0 : s ≠ 0) (h : s < 2 ^ 32) : els s = Lib.ctz 32 s :: els (s &&& (s - 1)) ∧ Lib.ctz 32 s < 32 := by
  obtain ⟨m, h1, h2⟩ := Lib.ctzFrom_spec 32 s (by omega) h
  have e : Lib.ctz 32 s = Lib.ctzFrom 32 s := by unfold Lib.ctz; rw [if_neg h0]
  rw [e]
  exact ⟨els_low h1 h2, h2⟩
theorem and_pred_lt {s : Nat} (h0 : s ≠ 0) : s &&& (s - 1) < s := by
  have : s &&& (s - 1) ≤ s - 1 := Nat.and_le_right
  omega

/-- all of some sets -/
def orL (l : List Nat) : Nat := l.foldl (· ||| ·) 0
theorem orL_snoc (l : List Nat) (s : Nat) : orL (l ++ [s]) = orL l ||| s := by simp [orL]
theorem orL_bit (l : List Nat) (i : Nat) : (orL l).testBit i = l.any fun s => s.testBit i := by
  have key : ∀ (l : List Nat) (a : Nat), (l.foldl (· ||| ·) a).testBit i = (a.testBit i || l.any fun s => s.testBit i) := by
    intro l
    induction l with
    | nil => simp
    | cons s l ih => intro a; rw [List.foldl_cons, ih, Nat.testBit_or, List.any_cons, Bool.or_assoc]
  unfold orL
  rw [key]
  simp
theorem orL_lt {l : List Nat} {n : Nat} (h : ∀ s ∈ l, s < 2 ^ n) : orL l < 2 ^ n := by
  refine lt_of_bits fun i hi => ?_
  rw [orL_bit, List.any_eq_false]
  intro s hs
  rw [bit_false (h s hs) hi]
  simp

/-- some are followed by others, too -/
def lnk (fo : Nat → Nat) (fr tt : Nat) : Nat → Nat := fun p => if fr.testBit p then fo p ||| tt else fo p
theorem lnk_bit (fo : Nat → Nat) (fr tt p q : Nat) : (lnk fo fr tt p).testBit q = ((fo p).testBit q || (fr.testBit p && tt.testBit q)) := by
  unfold lnk
  split
  · rename_i h; rw [Nat.testBit_or, h, Bool.true_and]
  · rename_i h
    have : fr.testBit p = false := by simpa using h
    rw [this, Bool.false_and, Bool.or_false]
theorem lnk_lt {fo : Nat → Nat} {fr tt n : Nat} (h : ∀ p, fo p < 2 ^ n) (ht : tt < 2 ^ n) (p : Nat) : lnk fo fr tt p < 2 ^ n := by
  unfold lnk
  split
  · exact Nat.or_lt_two_pow (h p) ht
  · exact h p

end Go.Proofs.YtnccgaanfjaimaaDoor
