/- step, over what stands one behind the other. -/
import Derived.Test.YtnohnkhhkeikoaaS
namespace Go.Proofs.Ytnohnkhhkeikoaa
open Go.ChangeShapes Go.WideShapes Go.ChangeAt Go.RowKit
set_option linter.unusedVariables false

attribute [local go_sem] Oper.semAt_some

set_option maxRecDepth 100000 in
set_option maxHeartbeats 8000000 in
theorem step_seq {x : X} (hx : x.good) (hk : x.kind = 2) (ih : ∀ y ∈ x.kids, StepC y) : StepC x := by
  intro g P Q fl c s b w hl hsp hc hP
  have hp := x.sz_pos
  obtain ⟨e0, kf, rfl⟩ : ∃ e0 kf, fl = e0 :: kf := List.exists_cons_of_length_pos (by omega)
  rw [SL_cons] at hsp
  have hkl : kf.length = szL x.kids := by rw [X.sz_eq] at hl; simp at hl; omega
  have hsp : SpM w g (P ++ spX e0 x :: (SLs x.kids kf ++ Q)) := by simpa using hsp
  have hb0 : Below w.heap.size w (((w.alloc (.cells #[.string s] 9)).alloc (.cells #[.bool b] 4)).alloc (.cells #[.pointer (some ⟨g, P.length * 5, none⟩)] 74)) := (((Below.refl _ w).alloc (Nat.le_refl _) _).alloc (by simp) _).alloc (by simp; try omega) _
  obtain ⟨W0, hQ0⟩ : ∃ W0, ((w.alloc (.cells #[.string s] 9)).alloc (.cells #[.bool b] 4)).alloc (.cells #[.pointer (some ⟨g, P.length * 5, none⟩)] 74) = W0 := ⟨_, rfl⟩
  rw [hQ0] at hb0
  have hz0 : W0.heap.size = w.heap.size + 3 := by rw [← hQ0]; simp
  have x4 : Boxed W0 w.heap.size 9 (.string s) := by
    unfold Boxed
    rw [← hQ0, Below.heap_alloc _ _ _ (by simp; try omega), Below.heap_alloc _ _ _ (by simp)]; exact World.alloc_heap_new w _
  have x5 : Boxed W0 (w.heap.size + 1) 4 (.bool b) := by
    unfold Boxed
    rw [← hQ0, Below.heap_alloc _ _ _ (by simp)]
    have := World.alloc_heap_new (w.alloc (.cells #[.string s] 9)) (.cells #[.bool b] 4)
    rwa [World.size_alloc] at this
  have x7 : Boxed W0 (w.heap.size + 1 + 1) 74 (.pointer (some ⟨g, P.length * 5, none⟩)) := by
    unfold Boxed
    rw [← hQ0]
    have := World.alloc_heap_new ((w.alloc (.cells #[.string s] 9)).alloc (.cells #[.bool b] 4)) (.cells #[.pointer (some ⟨g, P.length * 5, none⟩)] 74)
    rwa [World.size_alloc, World.size_alloc] at this
  have hsp0 := hsp.bel hb0
  obtain ⟨z0, z1, z2, z3, z4⟩ := hsp0.at0
  simp only [spX] at z0 z1 z2 z3 z4
  have c4 := x4.cell
  have c5 := x5.cell
  have c7 := x7.cell
  have hfz := hsp0.frozen (P.length * 5 + 4)
  have hgl := hsp.lt
  have hn4 : g ≠ w.heap.size := by omega
  have hn5 : g ≠ w.heap.size + 1 := by omega
  have hn7 : g ≠ w.heap.size + 1 + 1 := by omega
  have i1 : (0 : Int) < (x.sz : Int) := by omega
  have hks : x.kids ≠ [] := by
    have hf := hx.fit
    unfold X.fits fitB at hf
    rw [if_neg (by omega), if_pos (.inl hk), Bool.and_eq_true] at hf
    have := of_decide_eq_true hf.2
    intro e
    rw [e] at this
    simp at this
  have hfl : stepF s x (e0 :: kf) b = (rowS s x.kids kf b false).2.1 :: (rowS s x.kids kf b false).2.2 := by
    rw [stepF_eq, if_neg (by omega), if_pos hk]
    rfl
  rw [hfl]
  have hxs : x.sz = 1 + szL x.kids := X.sz_eq x
  have hfin : ∀ w5, SpM w5 g (P ++ spX e0 x :: (SLs x.kids (rowS s x.kids kf b false).2.2 ++ Q)) → Ch g (W0.drew.alloc (.cells #[.slice (some ⟨g, P.length * 5, none⟩) x.sz c] 52)) w5 →
      (w5.cell? ⟨g, P.length * 5 + 4, none⟩ = some (.bool e0) ∧ w5.frozen? ⟨g, P.length * 5 + 4, none⟩ = false) ∧ (w5.setCell ⟨g, P.length * 5 + 4, none⟩ (.bool (rowS s x.kids kf b false).2.1)).cell? ⟨g, P.length * 5 + 4, none⟩ = some (.bool (rowS s x.kids kf b false).2.1) ∧
      StepR g P Q x ((rowS s x.kids kf b false).2.1 :: (rowS s x.kids kf b false).2.2) w (.returned (.bool (rowS s x.kids kf b false).2.1)) (w5.setCell ⟨g, P.length * 5 + 4, none⟩ (.bool (rowS s x.kids kf b false).2.1)) := by
    intro w5 hm hch
    obtain ⟨-, -, -, -, q4⟩ := hm.at0
    simp only [spX] at q4
    refine ⟨⟨q4, hm.frozen _⟩, World.cell?_setCell_same _ _ _ q4, rfl, ?_, ?_⟩
    · have := hm.store0 (rowS s x.kids kf b false).2.1
      rw [spX_set] at this
      rw [SL_cons]
      simpa using this
    · have h1 : Ch g w (W0.drew.alloc (.cells #[.slice (some ⟨g, P.length * 5, none⟩) x.sz c] 52)) := Ch.of_below (hb0.drew.alloc (by have := hb0.size; exact this) _)
      exact (h1.trans hch).setCell _ _
  have hcall := fun (Bk : Nat) (w2 : World) (hB : Boxed w2 Bk 52 (.slice (some ⟨g, P.length * 5, none⟩) (1 + szL x.kids) c)) (hm : SpM w2 g (P ++ spX e0 x :: (SLs x.kids kf ++ Q))) => row58_any ih hx.kids hks s b hB (by omega) hkl hm (by omega)
  have HFIN := Lib.hid hfin
  have HCALL := Lib.hid hcall
  have HX := Lib.hid hxs
  have S0 := Lib.hid (show W0.drew.cell? ⟨w.heap.size, 0, none⟩ = some (.string s) ∧ W0.drew.cell? ⟨w.heap.size + 1, 0, none⟩ = some (.bool b) ∧ W0.drew.cell? ⟨w.heap.size + 1 + 1, 0, none⟩ = some (.pointer (some ⟨g, P.length * 5, none⟩)) from ⟨c4, c5, c7⟩)
  have HB := Lib.hid (And.intro x4 (And.intro x5 (And.intro x7 hsp0)))
  have keep : ∀ w5, Ch g W0 w5 → w5.cell? ⟨w.heap.size, 0, none⟩ = some (.string s) ∧ w5.cell? ⟨w.heap.size + 1, 0, none⟩ = some (.bool b) ∧ w5.cell? ⟨w.heap.size + 1 + 1, 0, none⟩ = some (.pointer (some ⟨g, P.length * 5, none⟩)) := fun w5 h =>
    ⟨(h.boxed x4 hn4.symm).cell, (h.boxed x5 hn5.symm).cell, (h.boxed x7 hn7.symm).cell⟩
  have KEEP := Lib.hid keep
  rw [hk] at z0
  clear hfin hsp hsp0 hb0 x4 x5 x7 hl hfl hcall hxs keep
  refine (callsIn_wide (n := 12)).1 ?_
  refine callsIn_of_wp_marks Try.func42 rfl trivial ?_ rfl
  simp only [Try.ntmps42, List.size_toArray, List.length_cons, List.length_nil, Nat.reduceAdd, Nat.reduceSub, Array.replicate_succ, Array.replicate_zero, List.push_toArray, List.append_toArray, List.nil_append, List.cons_append]
  refine wpIn_wide.2 ?_
  go_upto_region 6 with (fail)
  try rw [hQ0]
  go_region_held3 (fun w' => w'.cell? ⟨w.heap.size, 0, none⟩ = some (.string s) ∧ w'.cell? ⟨w.heap.size + 1, 0, none⟩ = some (.bool b) ∧ w'.cell? ⟨w.heap.size + 1 + 1, 0, none⟩ = some (.pointer (some ⟨g, P.length * 5, none⟩)))
    (first | exact S0.out | exact KEEP.out _ CH.out | exact KEEP.out _ (CH.out.setCell _ _))
    (first
      | (go_at_call 59; refine (kidsOf_any _ _ _ _).mono ?_; rintro e w1 ⟨rfl, hww⟩; have CH : Hid (Ch g W0 w1) := Lib.hid (by rw [hww]; exact Ch.of_below ((Below.refl _ W0).drew.alloc (Nat.le_refl _) _)); have HW1 := Lib.hid hww; clear hww)
      | (go_at_call 58; refine (HCALL.out _ _ (by rw [HW1.out, ← HX.out, ← hz0]; exact Boxed.new W0.drew _ _) (by rw [HW1.out]; exact HB.out.2.2.2.bel ((Below.refl _ W0).drew.alloc (Nat.le_refl _) _))).mono ?_; rintro e w5 ⟨rfl, hm5, hch5⟩; have CH : Hid (Ch g W0 w5) := Lib.hid (CH.out.trans hch5); obtain ⟨⟨k1, k2⟩, k3, k4⟩ := HFIN.out w5 hm5 (by rw [← HW1.out]; exact hch5); have K4 := Lib.hid k4; have k5 := (KEEP.out _ (CH.out.setCell (P.length * 5 + 4) (.bool (rowS s x.kids kf b false).2.1))).2.2; clear hm5 hch5 k4))
  go_wp2_with fail
  exact ⟨.bool (rowS s x.kids kf b false).2.1, by simp [results, Try.f42, go_sem], K4.out⟩
end Go.Proofs.Ytnohnkhhkeikoaa
