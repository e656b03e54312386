/- Texts QF, one behind the other. -/
import Derived.Test.YtnccgaanfjaimaaDoorJ13
set_option linter.unusedSimpArgs false
set_option linter.unusedVariables false
namespace Go.Proofs.YtnccgaanfjaimaaDoor
open Go.ChangeShapes Go.WideShapes Go.ChangeAt Go.RowKit
set_option linter.unusedVariables false
set_option linter.unusedSimpArgs false

attribute [local go_sem] Oper.semAt_some

set_option maxRecDepth 100000 in
set_option maxHeartbeats 16000000 in
theorem of_kids {M B : Nat} {w : World} {K : RK} {vl v : Value} {labs : List ByteArray} {P : Nat → Nat → Prop} {x : X} (ih : ∀ y ∈ x.kids, OfS y) (hx : XV M w v x) (hMB : M ≤ B) (h : RN B w K vl labs P) (hn : K.n ≤ 100000) (hg : x.good) (hs : x.sz ≤ 24) (hl : x.lit) (hfit : labs.length + x.pn ≤ K.n + 1) (h1 : x.kind ≠ 1) :
  Calls Tryd.prog 49 #[.pointer (some ⟨K.R, 0, none⟩), v] w (OfR B w K labs P x) := by
 have H1 := Lib.hid h1
 have IH := Lib.hid ih
 clear ih
 clear h1
 obtain ⟨kv, rfl, hr⟩ := hx
 obtain ⟨A, c, rfl⟩ := hr.form
 have hBw : B ≤ w.heap.size := Nat.le_trans h.hB (Nat.le_of_lt h.lt)
 obtain ⟨W0, hW0⟩ : ∃ y, (w.alloc (.cells #[.int .i64 x.kind, .string x.lab, .slice A x.kids.length c] 25)).alloc (.cells #[.slice none 0 0, .slice none 0 0, .bool false] 79) = y := ⟨_, rfl⟩
 have hb0 : Below w.heap.size w W0 := by rw [← hW0]; exact ((Below.refl _ w).alloc (Nat.le_refl _) _).alloc (by simp) _
 have hz0 : W0.heap.size = w.heap.size + 2 := by rw [← hW0]; simp
 have hbx : W0.heap[w.heap.size]? = some (.cells #[.int .i64 x.kind, .string x.lab, .slice A x.kids.length c] 25 (0, 0)) := by rw [← hW0, Below.heap_alloc _ _ _ (by simp)]; exact at_push w _
 have hrb : W0.heap[w.heap.size + 1]? = some (.cells #[.slice none 0 0, .slice none 0 0, .bool false] 79 (0, 0)) := by
  rw [← hW0]
  have h1 := at_push (w.alloc (.cells #[.int .i64 x.kind, .string x.lab, .slice A x.kids.length c] 25)) (.cells #[.slice none 0 0, .slice none 0 0, .bool false] 79)
  rwa [World.size_alloc] at h1
 have H := Lib.hid h
 have H0 := Lib.hid (h.bel hb0)
 have HX := Lib.hid (show XV M W0 (.agg #[.int .i64 x.kind, .string x.lab, .slice A x.kids.length c]) x from XV.bel ⟨_, rfl, hr⟩ (hb0.mono (Nat.le_trans hMB hBw)))
 have HG := Lib.hid (And.intro hg (And.intro hs (And.intro hl (And.intro hMB (And.intro hBw hfit)))))
 have HB := Lib.hid (And.intro hb0 (And.intro hz0 (And.intro hbx hrb)))
 have HXR := Lib.hid hr
 obtain ⟨nk, hnk⟩ : ∃ y, x.kids.length = y := ⟨_, rfl⟩
 have HNK := Lib.hid hnk
 have c3 := H0.out.cells.2.2.2.1
 obtain ⟨MM, hMM, hmk⟩ := make_flags K.n hn
 have HMM := Lib.hid hMM
 have HMK := Lib.hid hmk
 rw [hnk] at HX HXR HB hW0 ⊢
 have HEMP := Lib.hid (fun (W : World) (hb : Below W0.heap.size W0 W) => emp_takes hg hs ▸ rempty_any (HX.out.bel (hb.mono (by have := HG.out.2.2.2.1; have := HG.out.2.2.2.2.1; have := HB.out.2.1; omega))) (Nat.le_trans (by have := HG.out.2.2.2.1; have := HG.out.2.2.2.2.1; have := HB.out.2.1; omega) hb.size) (by omega) hl)
 clear h hg hl hMB hBw hb0 hz0 hbx hrb hr hnk hMM hmk hfit
 go_enter Tryd.func49, Tryd.ntmps49
 go_upto_region 1 with (fail)
 try rw [hW0]
 clear hW0
 go_upto_region 2 with (fail)
 clear c3
 have HBX := Lib.hid (fun W (hb : Below W0.heap.size W0 W) => (three_cells ((hb.block _ (by have := HB.out.2.1; omega)).trans HB.out.2.2.1)).1)
 refine Code.wp_mono (Q := fun e a' W' => e = .normal ∧ ∃ g1 g2 g6, a' = { tmps := #[.pointer (some ⟨K.R, 0, none⟩), .agg #[.int .i64 x.kind, .string x.lab, .slice A nk c], undef, .pointer (some ⟨w.heap.size, 0, none⟩), .pointer (some ⟨w.heap.size + 1, 0, none⟩), .int .i64 ((K.n : Int) + 1), .pointer (some ⟨g6, 0, none⟩), undef, undef, undef, undef, undef, undef, undef, undef, undef, undef, .pointer (some ⟨K.R, 0, none⟩), .pointer (some ⟨K.R, 0, none⟩), .pointer (some ⟨K.R, 3, none⟩), .slice (some ⟨K.g, 0, none⟩) (K.n + 1) K.c, .int .i64 ((K.n : Int) + 1), .int .i64 ((K.n : Int) + 1), .slice (some ⟨g1, 0, none⟩) (K.n + 1) (K.n + 1), .int .i64 ((K.n : Int) + 1), .slice (some ⟨g2, 0, none⟩) (K.n + 1) (K.n + 1), .agg #[.int .i64 x.kind, .string x.lab, .slice A nk c], .bool x.emp, .agg #[.slice (some ⟨g1, 0, none⟩) (K.n + 1) (K.n + 1), .slice (some ⟨g2, 0, none⟩) (K.n + 1) (K.n + 1), .bool x.emp], undef, undef, undef, undef, undef, undef, undef, undef, undef, undef, undef, undef, undef, undef, undef, undef, undef, undef, undef, undef, undef, undef, undef, undef, undef, undef, undef, undef, undef, undef, undef, undef, undef, undef, undef, undef, undef, undef, undef, undef, undef, undef, undef, undef, undef, undef, undef, undef, undef, undef, undef, undef, undef, undef, undef, undef, undef, undef, undef, undef, undef, undef, undef, undef, undef, undef, undef, undef, undef, undef, undef, undef, undef, undef, undef, undef, undef, undef, undef, undef, undef, undef, undef, undef, undef, undef, undef, undef, undef, undef, undef, undef, undef, undef, undef, undef, undef, undef, undef, undef, undef, undef, undef, undef, undef, undef, undef, undef, undef, undef, undef, undef, undef, undef, undef, undef, undef, undef, undef, undef, undef, undef, undef, undef, undef, undef, undef, undef, undef, undef, undef, undef, undef, undef, undef, undef, undef, undef, undef, undef, undef, undef, undef, undef, undef, undef, undef, undef, undef, undef, undef, undef, undef, undef, undef, undef, undef, undef, undef, undef, undef, undef], defers := [] } ∧ D2 B w W' K x nk c A vl labs P g1 g2 g6) ?_ ?_
 rotate_left
 ·obtain ⟨D0_, hD0⟩ : ∃ y, W0.drew = y := ⟨_, rfl⟩
  have DD := Lib.hid (show D4 w.heap.size W0 D0_ K.n none none none from ⟨by rw [← hD0]; exact (Below.refl _ _).drew, fun g e => by (cases e), fun g e => by (cases e), fun g e => by (cases e), fun g g' e _ => by (cases e)⟩)
  refine wp_region_noPanic ?_
  refine wp_region_held_drew (S := fun W => W.cell? ⟨w.heap.size, 0, none⟩ = some (.int .i64 x.kind) ∧ W.cell? ⟨w.heap.size, 1, none⟩ = some (.string x.lab) ∧ W.cell? ⟨w.heap.size, 2, none⟩ = some (.slice A nk c)) (by kernel_rfl) (by rw [hD0]; exact HBX.out _ DD.out.bel) (fun hHeld => ?_)
  clear hHeld
  rw [hD0]
  clear hD0
  refine tkI (i := 0) (v := .int .i64 ((K.n : Int) + 1)) rfl ⟨by rfl, ?_⟩ (HBX.out _ DD.out.bel) ?_
  ·intro ww hSw
   obtain ⟨hs0, hs1, hs2⟩ := hSw
   go_simp
  try simp only [Act.put, z1, z2, z3, z4, z5, z6]
  refine tkI (i := 2) (v := .int .i64 ((K.n : Int) + 1)) rfl ⟨by rfl, ?_⟩ (HBX.out _ DD.out.bel) ?_
  ·intro ww hSw
   obtain ⟨hs0, hs1, hs2⟩ := hSw
   go_simp
  try simp only [Act.put, z1, z2, z3, z4, z5, z6]
  refine tkI (i := 4) (v := .agg #[.int .i64 x.kind, .string x.lab, .slice A nk c]) rfl ⟨by rfl, ?_⟩ (HBX.out _ DD.out.bel) ?_
  ·intro ww hSw
   obtain ⟨hs0, hs1, hs2⟩ := hSw
   go_simp
  try simp only [Act.put, z1, z2, z3, z4, z5, z6]
  refine wpAnyH_ready (rs := [1, 3, 5, 7]) (by kernel_rfl) (by simp) ?_
  refine AllReadyH.cons rfl (fun k_ hK => ?_) (AllReadyH.cons rfl (fun k_ hK => ?_) (AllReadyH.cons rfl (fun k_ hK => ?_) (AllReadyH.cons rfl (fun k_ hK => ?_) (AllReadyH.nil))))
  ·have hmk := HMK.out
   go_simp
   have hd := DD.out.a1 (by have := HB.out.2.1; omega) HMM.out
   refine hK.out _ _ (HBX.out _ hd.bel) (fun _ => ?_)
   clear hK hmk
   try simp only [Act.put, z1, z2, z3, z4, z5, z6]
   obtain ⟨g1, hgg⟩ : ∃ y, D0_.heap.size = y := ⟨_, rfl⟩
   obtain ⟨u1_, huu⟩ : ∃ y, D0_.alloc (.cells MM 4) = y := ⟨_, rfl⟩
   rw [hgg, huu] at hd ⊢
   have D1_ := Lib.hid hd
   clear hd hgg huu
   refine wpAnyH_ready (rs := [3, 5, 7]) (by kernel_rfl) (by simp) ?_
   refine AllReadyH.cons rfl (fun k_ hK => ?_) (AllReadyH.cons rfl (fun k_ hK => ?_) (AllReadyH.cons rfl (fun k_ hK => ?_) (AllReadyH.nil)))
   ·have hmk := HMK.out
    go_simp
    have hd := D1_.out.a2 (by have := HB.out.2.1; omega) HMM.out
    refine hK.out _ _ (HBX.out _ hd.bel) (fun _ => ?_)
    clear hK hmk
    try simp only [Act.put, z1, z2, z3, z4, z5, z6]
    obtain ⟨g2, hgg⟩ : ∃ y, u1_.heap.size = y := ⟨_, rfl⟩
    obtain ⟨u2_, huu⟩ : ∃ y, u1_.alloc (.cells MM 4) = y := ⟨_, rfl⟩
    rw [hgg, huu] at hd ⊢
    have D2_ := Lib.hid hd
    clear hd hgg huu
    refine wpAnyH_ready (rs := [5, 7]) (by kernel_rfl) (by simp) ?_
    refine AllReadyH.cons rfl (fun k_ hK => ?_) (AllReadyH.cons rfl (fun k_ hK => ?_) (AllReadyH.nil))
    ·go_simp
     refine (HEMP.out _ D2_.out.bel).mono ?_
     rintro e u3_ ⟨rfl, hb⟩
     have D3_ := Lib.hid (D2_.out.step hb)
     clear hb
     refine hK.out _ _ (HBX.out _ D3_.out.bel) (fun _ => ?_)
     clear hK
     try simp only [Act.put, z1, z2, z3, z4, z5, z6]
     refine tkI (i := 6) (v := .agg #[.slice (some ⟨g1, 0, none⟩) (K.n + 1) (K.n + 1), .slice (some ⟨g2, 0, none⟩) (K.n + 1) (K.n + 1), .bool x.emp]) rfl ⟨by rfl, ?_⟩ (HBX.out _ D3_.out.bel) ?_
     ·intro ww hSw
      obtain ⟨hs0, hs1, hs2⟩ := hSw
      go_simp
     try simp only [Act.put, z1, z2, z3, z4, z5, z6]
     refine wpAnyH_ready (rs := [7]) (by kernel_rfl) (by simp) ?_
     refine AllReadyH.cons rfl (fun k_ hK => ?_) (AllReadyH.nil)
     ·go_simp
      have hd := D3_.out.a6
      refine hK.out _ _ (HBX.out _ hd.bel) (fun _ => ?_)
      clear hK
      try simp only [Act.put, z1, z2, z3, z4, z5, z6]
      obtain ⟨g6, hgg⟩ : ∃ y, u3_.heap.size = y := ⟨_, rfl⟩
      obtain ⟨u4_, huu⟩ : ∃ y, u3_.alloc (.cells #[.slice none 0 0, .slice none 0 0, .bool false] 79) = y := ⟨_, rfl⟩
      rw [hgg, huu] at hd ⊢
      have D4_ := Lib.hid hd
      clear hd hgg huu
      refine wpAnyH_ready (rs := [8]) (by kernel_rfl) (by simp) ?_
      refine AllReadyH.cons rfl (fun k_ hK => ?_) AllReadyH.nil
      obtain ⟨⟨z0, z1, z2⟩, f0, f1, f2⟩ := three_cells (D4_.out.z6 _ rfl).2
      go_simp
      refine hK.out _ _ (HBX.out _ (set3'_below D4_.out.bel (D4_.out.z6 _ rfl).1 (.slice (some ⟨g1, 0, none⟩) (K.n + 1) (K.n + 1)) (.slice (some ⟨g2, 0, none⟩) (K.n + 1) (K.n + 1)) (.bool x.emp))) (fun _ => ?_)
      clear hK z0 z1 z2 f0 f1 f2
      try simp only [Act.put, z1, z2, z3, z4, z5, z6]
      refine ⟨by kernel_rfl, ?_⟩
      refine NoPanic.normal ?_
      exact ⟨rfl, g1, g2, g6, rfl, D4_.out.fin HB.out.1 HB.out.2.1 HB.out.2.2.1 HB.out.2.2.2 H0.out⟩
    ·go_simp
     have hd := D2_.out.a6
     refine hK.out _ _ (HBX.out _ hd.bel) (fun _ => ?_)
     clear hK
     try simp only [Act.put, z1, z2, z3, z4, z5, z6]
     obtain ⟨g6, hgg⟩ : ∃ y, u2_.heap.size = y := ⟨_, rfl⟩
     obtain ⟨u5_, huu⟩ : ∃ y, u2_.alloc (.cells #[.slice none 0 0, .slice none 0 0, .bool false] 79) = y := ⟨_, rfl⟩
     rw [hgg, huu] at hd ⊢
     have D5_ := Lib.hid hd
     clear hd hgg huu
     refine wpAnyH_ready (rs := [5]) (by kernel_rfl) (by simp) ?_
     refine AllReadyH.cons rfl (fun k_ hK => ?_) (AllReadyH.nil)
     ·go_simp
      refine (HEMP.out _ D5_.out.bel).mono ?_
      rintro e u6_ ⟨rfl, hb⟩
      have D6_ := Lib.hid (D5_.out.step hb)
      clear hb
      refine hK.out _ _ (HBX.out _ D6_.out.bel) (fun _ => ?_)
      clear hK
      try simp only [Act.put, z1, z2, z3, z4, z5, z6]
      refine tkI (i := 6) (v := .agg #[.slice (some ⟨g1, 0, none⟩) (K.n + 1) (K.n + 1), .slice (some ⟨g2, 0, none⟩) (K.n + 1) (K.n + 1), .bool x.emp]) rfl ⟨by rfl, ?_⟩ (HBX.out _ D6_.out.bel) ?_
      ·intro ww hSw
       obtain ⟨hs0, hs1, hs2⟩ := hSw
       go_simp
      try simp only [Act.put, z1, z2, z3, z4, z5, z6]
      refine wpAnyH_ready (rs := [8]) (by kernel_rfl) (by simp) ?_
      refine AllReadyH.cons rfl (fun k_ hK => ?_) AllReadyH.nil
      obtain ⟨⟨z0, z1, z2⟩, f0, f1, f2⟩ := three_cells (D6_.out.z6 _ rfl).2
      go_simp
      refine hK.out _ _ (HBX.out _ (set3'_below D6_.out.bel (D6_.out.z6 _ rfl).1 (.slice (some ⟨g1, 0, none⟩) (K.n + 1) (K.n + 1)) (.slice (some ⟨g2, 0, none⟩) (K.n + 1) (K.n + 1)) (.bool x.emp))) (fun _ => ?_)
      clear hK z0 z1 z2 f0 f1 f2
      try simp only [Act.put, z1, z2, z3, z4, z5, z6]
      refine ⟨by kernel_rfl, ?_⟩
      refine NoPanic.normal ?_
      exact ⟨rfl, g1, g2, g6, rfl, D6_.out.fin HB.out.1 HB.out.2.1 HB.out.2.2.1 HB.out.2.2.2 H0.out⟩
   ·go_simp
    refine (HEMP.out _ D1_.out.bel).mono ?_
    rintro e u7_ ⟨rfl, hb⟩
    have D7_ := Lib.hid (D1_.out.step hb)
    clear hb
    refine hK.out _ _ (HBX.out _ D7_.out.bel) (fun _ => ?_)
    clear hK
    try simp only [Act.put, z1, z2, z3, z4, z5, z6]
    refine wpAnyH_ready (rs := [3, 7]) (by kernel_rfl) (by simp) ?_
    refine AllReadyH.cons rfl (fun k_ hK => ?_) (AllReadyH.cons rfl (fun k_ hK => ?_) (AllReadyH.nil))
    ·have hmk := HMK.out
     go_simp
     have hd := D7_.out.a2 (by have := HB.out.2.1; omega) HMM.out
     refine hK.out _ _ (HBX.out _ hd.bel) (fun _ => ?_)
     clear hK hmk
     try simp only [Act.put, z1, z2, z3, z4, z5, z6]
     obtain ⟨g2, hgg⟩ : ∃ y, u7_.heap.size = y := ⟨_, rfl⟩
     obtain ⟨u8_, huu⟩ : ∃ y, u7_.alloc (.cells MM 4) = y := ⟨_, rfl⟩
     rw [hgg, huu] at hd ⊢
     have D8_ := Lib.hid hd
     clear hd hgg huu
     refine tkI (i := 6) (v := .agg #[.slice (some ⟨g1, 0, none⟩) (K.n + 1) (K.n + 1), .slice (some ⟨g2, 0, none⟩) (K.n + 1) (K.n + 1), .bool x.emp]) rfl ⟨by rfl, ?_⟩ (HBX.out _ D8_.out.bel) ?_
     ·intro ww hSw
      obtain ⟨hs0, hs1, hs2⟩ := hSw
      go_simp
     try simp only [Act.put, z1, z2, z3, z4, z5, z6]
     refine wpAnyH_ready (rs := [7]) (by kernel_rfl) (by simp) ?_
     refine AllReadyH.cons rfl (fun k_ hK => ?_) (AllReadyH.nil)
     ·go_simp
      have hd := D8_.out.a6
      refine hK.out _ _ (HBX.out _ hd.bel) (fun _ => ?_)
      clear hK
      try simp only [Act.put, z1, z2, z3, z4, z5, z6]
      obtain ⟨g6, hgg⟩ : ∃ y, u8_.heap.size = y := ⟨_, rfl⟩
      obtain ⟨u9_, huu⟩ : ∃ y, u8_.alloc (.cells #[.slice none 0 0, .slice none 0 0, .bool false] 79) = y := ⟨_, rfl⟩
      rw [hgg, huu] at hd ⊢
      have D9_ := Lib.hid hd
      clear hd hgg huu
      refine wpAnyH_ready (rs := [8]) (by kernel_rfl) (by simp) ?_
      refine AllReadyH.cons rfl (fun k_ hK => ?_) AllReadyH.nil
      obtain ⟨⟨z0, z1, z2⟩, f0, f1, f2⟩ := three_cells (D9_.out.z6 _ rfl).2
      go_simp
      refine hK.out _ _ (HBX.out _ (set3'_below D9_.out.bel (D9_.out.z6 _ rfl).1 (.slice (some ⟨g1, 0, none⟩) (K.n + 1) (K.n + 1)) (.slice (some ⟨g2, 0, none⟩) (K.n + 1) (K.n + 1)) (.bool x.emp))) (fun _ => ?_)
      clear hK z0 z1 z2 f0 f1 f2
      try simp only [Act.put, z1, z2, z3, z4, z5, z6]
      refine ⟨by kernel_rfl, ?_⟩
      refine NoPanic.normal ?_
      exact ⟨rfl, g1, g2, g6, rfl, D9_.out.fin HB.out.1 HB.out.2.1 HB.out.2.2.1 HB.out.2.2.2 H0.out⟩
    ·go_simp
     have hd := D7_.out.a6
     refine hK.out _ _ (HBX.out _ hd.bel) (fun _ => ?_)
     clear hK
     try simp only [Act.put, z1, z2, z3, z4, z5, z6]
     obtain ⟨g6, hgg⟩ : ∃ y, u7_.heap.size = y := ⟨_, rfl⟩
     obtain ⟨u10_, huu⟩ : ∃ y, u7_.alloc (.cells #[.slice none 0 0, .slice none 0 0, .bool false] 79) = y := ⟨_, rfl⟩
     rw [hgg, huu] at hd ⊢
     have D10_ := Lib.hid hd
     clear hd hgg huu
     refine wpAnyH_ready (rs := [3]) (by kernel_rfl) (by simp) ?_
     refine AllReadyH.cons rfl (fun k_ hK => ?_) (AllReadyH.nil)
     ·have hmk := HMK.out
      go_simp
      have hd := D10_.out.a2 (by have := HB.out.2.1; omega) HMM.out
      refine hK.out _ _ (HBX.out _ hd.bel) (fun _ => ?_)
      clear hK hmk
      try simp only [Act.put, z1, z2, z3, z4, z5, z6]
      obtain ⟨g2, hgg⟩ : ∃ y, u10_.heap.size = y := ⟨_, rfl⟩
      obtain ⟨u11_, huu⟩ : ∃ y, u10_.alloc (.cells MM 4) = y := ⟨_, rfl⟩
      rw [hgg, huu] at hd ⊢
      have D11_ := Lib.hid hd
      clear hd hgg huu
      refine tkI (i := 6) (v := .agg #[.slice (some ⟨g1, 0, none⟩) (K.n + 1) (K.n + 1), .slice (some ⟨g2, 0, none⟩) (K.n + 1) (K.n + 1), .bool x.emp]) rfl ⟨by rfl, ?_⟩ (HBX.out _ D11_.out.bel) ?_
      ·intro ww hSw
       obtain ⟨hs0, hs1, hs2⟩ := hSw
       go_simp
      try simp only [Act.put, z1, z2, z3, z4, z5, z6]
      refine wpAnyH_ready (rs := [8]) (by kernel_rfl) (by simp) ?_
      refine AllReadyH.cons rfl (fun k_ hK => ?_) AllReadyH.nil
      obtain ⟨⟨z0, z1, z2⟩, f0, f1, f2⟩ := three_cells (D11_.out.z6 _ rfl).2
      go_simp
      refine hK.out _ _ (HBX.out _ (set3'_below D11_.out.bel (D11_.out.z6 _ rfl).1 (.slice (some ⟨g1, 0, none⟩) (K.n + 1) (K.n + 1)) (.slice (some ⟨g2, 0, none⟩) (K.n + 1) (K.n + 1)) (.bool x.emp))) (fun _ => ?_)
      clear hK z0 z1 z2 f0 f1 f2
      try simp only [Act.put, z1, z2, z3, z4, z5, z6]
      refine ⟨by kernel_rfl, ?_⟩
      refine NoPanic.normal ?_
      exact ⟨rfl, g1, g2, g6, rfl, D11_.out.fin HB.out.1 HB.out.2.1 HB.out.2.2.1 HB.out.2.2.2 H0.out⟩
   ·go_simp
    have hd := D1_.out.a6
    refine hK.out _ _ (HBX.out _ hd.bel) (fun _ => ?_)
    clear hK
    try simp only [Act.put, z1, z2, z3, z4, z5, z6]
    obtain ⟨g6, hgg⟩ : ∃ y, u1_.heap.size = y := ⟨_, rfl⟩
    obtain ⟨u12_, huu⟩ : ∃ y, u1_.alloc (.cells #[.slice none 0 0, .slice none 0 0, .bool false] 79) = y := ⟨_, rfl⟩
    rw [hgg, huu] at hd ⊢
    have D12_ := Lib.hid hd
    clear hd hgg huu
    refine wpAnyH_ready (rs := [3, 5]) (by kernel_rfl) (by simp) ?_
    refine AllReadyH.cons rfl (fun k_ hK => ?_) (AllReadyH.cons rfl (fun k_ hK => ?_) (AllReadyH.nil))
    ·have hmk := HMK.out
     go_simp
     have hd := D12_.out.a2 (by have := HB.out.2.1; omega) HMM.out
     refine hK.out _ _ (HBX.out _ hd.bel) (fun _ => ?_)
     clear hK hmk
     try simp only [Act.put, z1, z2, z3, z4, z5, z6]
     obtain ⟨g2, hgg⟩ : ∃ y, u12_.heap.size = y := ⟨_, rfl⟩
     obtain ⟨u13_, huu⟩ : ∃ y, u12_.alloc (.cells MM 4) = y := ⟨_, rfl⟩
     rw [hgg, huu] at hd ⊢
     have D13_ := Lib.hid hd
     clear hd hgg huu
     refine wpAnyH_ready (rs := [5]) (by kernel_rfl) (by simp) ?_
     refine AllReadyH.cons rfl (fun k_ hK => ?_) (AllReadyH.nil)
     ·go_simp
      refine (HEMP.out _ D13_.out.bel).mono ?_
      rintro e u14_ ⟨rfl, hb⟩
      have D14_ := Lib.hid (D13_.out.step hb)
      clear hb
      refine hK.out _ _ (HBX.out _ D14_.out.bel) (fun _ => ?_)
      clear hK
      try simp only [Act.put, z1, z2, z3, z4, z5, z6]
      refine tkI (i := 6) (v := .agg #[.slice (some ⟨g1, 0, none⟩) (K.n + 1) (K.n + 1), .slice (some ⟨g2, 0, none⟩) (K.n + 1) (K.n + 1), .bool x.emp]) rfl ⟨by rfl, ?_⟩ (HBX.out _ D14_.out.bel) ?_
      ·intro ww hSw
       obtain ⟨hs0, hs1, hs2⟩ := hSw
       go_simp
      try simp only [Act.put, z1, z2, z3, z4, z5, z6]
      refine wpAnyH_ready (rs := [8]) (by kernel_rfl) (by simp) ?_
      refine AllReadyH.cons rfl (fun k_ hK => ?_) AllReadyH.nil
      obtain ⟨⟨z0, z1, z2⟩, f0, f1, f2⟩ := three_cells (D14_.out.z6 _ rfl).2
      go_simp
      refine hK.out _ _ (HBX.out _ (set3'_below D14_.out.bel (D14_.out.z6 _ rfl).1 (.slice (some ⟨g1, 0, none⟩) (K.n + 1) (K.n + 1)) (.slice (some ⟨g2, 0, none⟩) (K.n + 1) (K.n + 1)) (.bool x.emp))) (fun _ => ?_)
      clear hK z0 z1 z2 f0 f1 f2
      try simp only [Act.put, z1, z2, z3, z4, z5, z6]
      refine ⟨by kernel_rfl, ?_⟩
      refine NoPanic.normal ?_
      exact ⟨rfl, g1, g2, g6, rfl, D14_.out.fin HB.out.1 HB.out.2.1 HB.out.2.2.1 HB.out.2.2.2 H0.out⟩
    ·go_simp
     refine (HEMP.out _ D12_.out.bel).mono ?_
     rintro e u15_ ⟨rfl, hb⟩
     have D15_ := Lib.hid (D12_.out.step hb)
     clear hb
     refine hK.out _ _ (HBX.out _ D15_.out.bel) (fun _ => ?_)
     clear hK
     try simp only [Act.put, z1, z2, z3, z4, z5, z6]
     refine wpAnyH_ready (rs := [3]) (by kernel_rfl) (by simp) ?_
     refine AllReadyH.cons rfl (fun k_ hK => ?_) (AllReadyH.nil)
     ·have hmk := HMK.out
      go_simp
      have hd := D15_.out.a2 (by have := HB.out.2.1; omega) HMM.out
      refine hK.out _ _ (HBX.out _ hd.bel) (fun _ => ?_)
      clear hK hmk
      try simp only [Act.put, z1, z2, z3, z4, z5, z6]
      obtain ⟨g2, hgg⟩ : ∃ y, u15_.heap.size = y := ⟨_, rfl⟩
      obtain ⟨u16_, huu⟩ : ∃ y, u15_.alloc (.cells MM 4) = y := ⟨_, rfl⟩
      rw [hgg, huu] at hd ⊢
      have D16_ := Lib.hid hd
      clear hd hgg huu
      refine tkI (i := 6) (v := .agg #[.slice (some ⟨g1, 0, none⟩) (K.n + 1) (K.n + 1), .slice (some ⟨g2, 0, none⟩) (K.n + 1) (K.n + 1), .bool x.emp]) rfl ⟨by rfl, ?_⟩ (HBX.out _ D16_.out.bel) ?_
      ·intro ww hSw
       obtain ⟨hs0, hs1, hs2⟩ := hSw
       go_simp
      try simp only [Act.put, z1, z2, z3, z4, z5, z6]
      refine wpAnyH_ready (rs := [8]) (by kernel_rfl) (by simp) ?_
      refine AllReadyH.cons rfl (fun k_ hK => ?_) AllReadyH.nil
      obtain ⟨⟨z0, z1, z2⟩, f0, f1, f2⟩ := three_cells (D16_.out.z6 _ rfl).2
      go_simp
      refine hK.out _ _ (HBX.out _ (set3'_below D16_.out.bel (D16_.out.z6 _ rfl).1 (.slice (some ⟨g1, 0, none⟩) (K.n + 1) (K.n + 1)) (.slice (some ⟨g2, 0, none⟩) (K.n + 1) (K.n + 1)) (.bool x.emp))) (fun _ => ?_)
      clear hK z0 z1 z2 f0 f1 f2
      try simp only [Act.put, z1, z2, z3, z4, z5, z6]
      refine ⟨by kernel_rfl, ?_⟩
      refine NoPanic.normal ?_
      exact ⟨rfl, g1, g2, g6, rfl, D16_.out.fin HB.out.1 HB.out.2.1 HB.out.2.2.1 HB.out.2.2.2 H0.out⟩
  ·have hmk := HMK.out
   go_simp
   have hd := DD.out.a2 (by have := HB.out.2.1; omega) HMM.out
   refine hK.out _ _ (HBX.out _ hd.bel) (fun _ => ?_)
   clear hK hmk
   try simp only [Act.put, z1, z2, z3, z4, z5, z6]
   obtain ⟨g2, hgg⟩ : ∃ y, D0_.heap.size = y := ⟨_, rfl⟩
   obtain ⟨u17_, huu⟩ : ∃ y, D0_.alloc (.cells MM 4) = y := ⟨_, rfl⟩
   rw [hgg, huu] at hd ⊢
   have D17_ := Lib.hid hd
   clear hd hgg huu
   refine wpAnyH_ready (rs := [1, 5, 7]) (by kernel_rfl) (by simp) ?_
   refine AllReadyH.cons rfl (fun k_ hK => ?_) (AllReadyH.cons rfl (fun k_ hK => ?_) (AllReadyH.cons rfl (fun k_ hK => ?_) (AllReadyH.nil)))
   ·have hmk := HMK.out
    go_simp
    have hd := D17_.out.a1 (by have := HB.out.2.1; omega) HMM.out
    refine hK.out _ _ (HBX.out _ hd.bel) (fun _ => ?_)
    clear hK hmk
    try simp only [Act.put, z1, z2, z3, z4, z5, z6]
    obtain ⟨g1, hgg⟩ : ∃ y, u17_.heap.size = y := ⟨_, rfl⟩
    obtain ⟨u18_, huu⟩ : ∃ y, u17_.alloc (.cells MM 4) = y := ⟨_, rfl⟩
    rw [hgg, huu] at hd ⊢
    have D18_ := Lib.hid hd
    clear hd hgg huu
    refine wpAnyH_ready (rs := [5, 7]) (by kernel_rfl) (by simp) ?_
    refine AllReadyH.cons rfl (fun k_ hK => ?_) (AllReadyH.cons rfl (fun k_ hK => ?_) (AllReadyH.nil))
    ·go_simp
     refine (HEMP.out _ D18_.out.bel).mono ?_
     rintro e u19_ ⟨rfl, hb⟩
     have D19_ := Lib.hid (D18_.out.step hb)
     clear hb
     refine hK.out _ _ (HBX.out _ D19_.out.bel) (fun _ => ?_)
     clear hK
     try simp only [Act.put, z1, z2, z3, z4, z5, z6]
     refine tkI (i := 6) (v := .agg #[.slice (some ⟨g1, 0, none⟩) (K.n + 1) (K.n + 1), .slice (some ⟨g2, 0, none⟩) (K.n + 1) (K.n + 1), .bool x.emp]) rfl ⟨by rfl, ?_⟩ (HBX.out _ D19_.out.bel) ?_
     ·intro ww hSw
      obtain ⟨hs0, hs1, hs2⟩ := hSw
      go_simp
     try simp only [Act.put, z1, z2, z3, z4, z5, z6]
     refine wpAnyH_ready (rs := [7]) (by kernel_rfl) (by simp) ?_
     refine AllReadyH.cons rfl (fun k_ hK => ?_) (AllReadyH.nil)
     ·go_simp
      have hd := D19_.out.a6
      refine hK.out _ _ (HBX.out _ hd.bel) (fun _ => ?_)
      clear hK
      try simp only [Act.put, z1, z2, z3, z4, z5, z6]
      obtain ⟨g6, hgg⟩ : ∃ y, u19_.heap.size = y := ⟨_, rfl⟩
      obtain ⟨u20_, huu⟩ : ∃ y, u19_.alloc (.cells #[.slice none 0 0, .slice none 0 0, .bool false] 79) = y := ⟨_, rfl⟩
      rw [hgg, huu] at hd ⊢
      have D20_ := Lib.hid hd
      clear hd hgg huu
      refine wpAnyH_ready (rs := [8]) (by kernel_rfl) (by simp) ?_
      refine AllReadyH.cons rfl (fun k_ hK => ?_) AllReadyH.nil
      obtain ⟨⟨z0, z1, z2⟩, f0, f1, f2⟩ := three_cells (D20_.out.z6 _ rfl).2
      go_simp
      refine hK.out _ _ (HBX.out _ (set3'_below D20_.out.bel (D20_.out.z6 _ rfl).1 (.slice (some ⟨g1, 0, none⟩) (K.n + 1) (K.n + 1)) (.slice (some ⟨g2, 0, none⟩) (K.n + 1) (K.n + 1)) (.bool x.emp))) (fun _ => ?_)
      clear hK z0 z1 z2 f0 f1 f2
      try simp only [Act.put, z1, z2, z3, z4, z5, z6]
      refine ⟨by kernel_rfl, ?_⟩
      refine NoPanic.normal ?_
      exact ⟨rfl, g1, g2, g6, rfl, D20_.out.fin HB.out.1 HB.out.2.1 HB.out.2.2.1 HB.out.2.2.2 H0.out⟩
    ·go_simp
     have hd := D18_.out.a6
     refine hK.out _ _ (HBX.out _ hd.bel) (fun _ => ?_)
     clear hK
     try simp only [Act.put, z1, z2, z3, z4, z5, z6]
     obtain ⟨g6, hgg⟩ : ∃ y, u18_.heap.size = y := ⟨_, rfl⟩
     obtain ⟨u21_, huu⟩ : ∃ y, u18_.alloc (.cells #[.slice none 0 0, .slice none 0 0, .bool false] 79) = y := ⟨_, rfl⟩
     rw [hgg, huu] at hd ⊢
     have D21_ := Lib.hid hd
     clear hd hgg huu
     refine wpAnyH_ready (rs := [5]) (by kernel_rfl) (by simp) ?_
     refine AllReadyH.cons rfl (fun k_ hK => ?_) (AllReadyH.nil)
     ·go_simp
      refine (HEMP.out _ D21_.out.bel).mono ?_
      rintro e u22_ ⟨rfl, hb⟩
      have D22_ := Lib.hid (D21_.out.step hb)
      clear hb
      refine hK.out _ _ (HBX.out _ D22_.out.bel) (fun _ => ?_)
      clear hK
      try simp only [Act.put, z1, z2, z3, z4, z5, z6]
      refine tkI (i := 6) (v := .agg #[.slice (some ⟨g1, 0, none⟩) (K.n + 1) (K.n + 1), .slice (some ⟨g2, 0, none⟩) (K.n + 1) (K.n + 1), .bool x.emp]) rfl ⟨by rfl, ?_⟩ (HBX.out _ D22_.out.bel) ?_
      ·intro ww hSw
       obtain ⟨hs0, hs1, hs2⟩ := hSw
       go_simp
      try simp only [Act.put, z1, z2, z3, z4, z5, z6]
      refine wpAnyH_ready (rs := [8]) (by kernel_rfl) (by simp) ?_
      refine AllReadyH.cons rfl (fun k_ hK => ?_) AllReadyH.nil
      obtain ⟨⟨z0, z1, z2⟩, f0, f1, f2⟩ := three_cells (D22_.out.z6 _ rfl).2
      go_simp
      refine hK.out _ _ (HBX.out _ (set3'_below D22_.out.bel (D22_.out.z6 _ rfl).1 (.slice (some ⟨g1, 0, none⟩) (K.n + 1) (K.n + 1)) (.slice (some ⟨g2, 0, none⟩) (K.n + 1) (K.n + 1)) (.bool x.emp))) (fun _ => ?_)
      clear hK z0 z1 z2 f0 f1 f2
      try simp only [Act.put, z1, z2, z3, z4, z5, z6]
      refine ⟨by kernel_rfl, ?_⟩
      refine NoPanic.normal ?_
      exact ⟨rfl, g1, g2, g6, rfl, D22_.out.fin HB.out.1 HB.out.2.1 HB.out.2.2.1 HB.out.2.2.2 H0.out⟩
   ·go_simp
    refine (HEMP.out _ D17_.out.bel).mono ?_
    rintro e u23_ ⟨rfl, hb⟩
    have D23_ := Lib.hid (D17_.out.step hb)
    clear hb
    refine hK.out _ _ (HBX.out _ D23_.out.bel) (fun _ => ?_)
    clear hK
    try simp only [Act.put, z1, z2, z3, z4, z5, z6]
    refine wpAnyH_ready (rs := [1, 7]) (by kernel_rfl) (by simp) ?_
    refine AllReadyH.cons rfl (fun k_ hK => ?_) (AllReadyH.cons rfl (fun k_ hK => ?_) (AllReadyH.nil))
    ·have hmk := HMK.out
     go_simp
     have hd := D23_.out.a1 (by have := HB.out.2.1; omega) HMM.out
     refine hK.out _ _ (HBX.out _ hd.bel) (fun _ => ?_)
     clear hK hmk
     try simp only [Act.put, z1, z2, z3, z4, z5, z6]
     obtain ⟨g1, hgg⟩ : ∃ y, u23_.heap.size = y := ⟨_, rfl⟩
     obtain ⟨u24_, huu⟩ : ∃ y, u23_.alloc (.cells MM 4) = y := ⟨_, rfl⟩
     rw [hgg, huu] at hd ⊢
     have D24_ := Lib.hid hd
     clear hd hgg huu
     refine tkI (i := 6) (v := .agg #[.slice (some ⟨g1, 0, none⟩) (K.n + 1) (K.n + 1), .slice (some ⟨g2, 0, none⟩) (K.n + 1) (K.n + 1), .bool x.emp]) rfl ⟨by rfl, ?_⟩ (HBX.out _ D24_.out.bel) ?_
     ·intro ww hSw
      obtain ⟨hs0, hs1, hs2⟩ := hSw
      go_simp
     try simp only [Act.put, z1, z2, z3, z4, z5, z6]
     refine wpAnyH_ready (rs := [7]) (by kernel_rfl) (by simp) ?_
     refine AllReadyH.cons rfl (fun k_ hK => ?_) (AllReadyH.nil)
     ·go_simp
      have hd := D24_.out.a6
      refine hK.out _ _ (HBX.out _ hd.bel) (fun _ => ?_)
      clear hK
      try simp only [Act.put, z1, z2, z3, z4, z5, z6]
      obtain ⟨g6, hgg⟩ : ∃ y, u24_.heap.size = y := ⟨_, rfl⟩
      obtain ⟨u25_, huu⟩ : ∃ y, u24_.alloc (.cells #[.slice none 0 0, .slice none 0 0, .bool false] 79) = y := ⟨_, rfl⟩
      rw [hgg, huu] at hd ⊢
      have D25_ := Lib.hid hd
      clear hd hgg huu
      refine wpAnyH_ready (rs := [8]) (by kernel_rfl) (by simp) ?_
      refine AllReadyH.cons rfl (fun k_ hK => ?_) AllReadyH.nil
      obtain ⟨⟨z0, z1, z2⟩, f0, f1, f2⟩ := three_cells (D25_.out.z6 _ rfl).2
      go_simp
      refine hK.out _ _ (HBX.out _ (set3'_below D25_.out.bel (D25_.out.z6 _ rfl).1 (.slice (some ⟨g1, 0, none⟩) (K.n + 1) (K.n + 1)) (.slice (some ⟨g2, 0, none⟩) (K.n + 1) (K.n + 1)) (.bool x.emp))) (fun _ => ?_)
      clear hK z0 z1 z2 f0 f1 f2
      try simp only [Act.put, z1, z2, z3, z4, z5, z6]
      refine ⟨by kernel_rfl, ?_⟩
      refine NoPanic.normal ?_
      exact ⟨rfl, g1, g2, g6, rfl, D25_.out.fin HB.out.1 HB.out.2.1 HB.out.2.2.1 HB.out.2.2.2 H0.out⟩
    ·go_simp
     have hd := D23_.out.a6
     refine hK.out _ _ (HBX.out _ hd.bel) (fun _ => ?_)
     clear hK
     try simp only [Act.put, z1, z2, z3, z4, z5, z6]
     obtain ⟨g6, hgg⟩ : ∃ y, u23_.heap.size = y := ⟨_, rfl⟩
     obtain ⟨u26_, huu⟩ : ∃ y, u23_.alloc (.cells #[.slice none 0 0, .slice none 0 0, .bool false] 79) = y := ⟨_, rfl⟩
     rw [hgg, huu] at hd ⊢
     have D26_ := Lib.hid hd
     clear hd hgg huu
     refine wpAnyH_ready (rs := [1]) (by kernel_rfl) (by simp) ?_
     refine AllReadyH.cons rfl (fun k_ hK => ?_) (AllReadyH.nil)
     ·have hmk := HMK.out
      go_simp
      have hd := D26_.out.a1 (by have := HB.out.2.1; omega) HMM.out
      refine hK.out _ _ (HBX.out _ hd.bel) (fun _ => ?_)
      clear hK hmk
      try simp only [Act.put, z1, z2, z3, z4, z5, z6]
      obtain ⟨g1, hgg⟩ : ∃ y, u26_.heap.size = y := ⟨_, rfl⟩
      obtain ⟨u27_, huu⟩ : ∃ y, u26_.alloc (.cells MM 4) = y := ⟨_, rfl⟩
      rw [hgg, huu] at hd ⊢
      have D27_ := Lib.hid hd
      clear hd hgg huu
      refine tkI (i := 6) (v := .agg #[.slice (some ⟨g1, 0, none⟩) (K.n + 1) (K.n + 1), .slice (some ⟨g2, 0, none⟩) (K.n + 1) (K.n + 1), .bool x.emp]) rfl ⟨by rfl, ?_⟩ (HBX.out _ D27_.out.bel) ?_
      ·intro ww hSw
       obtain ⟨hs0, hs1, hs2⟩ := hSw
       go_simp
      try simp only [Act.put, z1, z2, z3, z4, z5, z6]
      refine wpAnyH_ready (rs := [8]) (by kernel_rfl) (by simp) ?_
      refine AllReadyH.cons rfl (fun k_ hK => ?_) AllReadyH.nil
      obtain ⟨⟨z0, z1, z2⟩, f0, f1, f2⟩ := three_cells (D27_.out.z6 _ rfl).2
      go_simp
      refine hK.out _ _ (HBX.out _ (set3'_below D27_.out.bel (D27_.out.z6 _ rfl).1 (.slice (some ⟨g1, 0, none⟩) (K.n + 1) (K.n + 1)) (.slice (some ⟨g2, 0, none⟩) (K.n + 1) (K.n + 1)) (.bool x.emp))) (fun _ => ?_)
      clear hK z0 z1 z2 f0 f1 f2
      try simp only [Act.put, z1, z2, z3, z4, z5, z6]
      refine ⟨by kernel_rfl, ?_⟩
      refine NoPanic.normal ?_
      exact ⟨rfl, g1, g2, g6, rfl, D27_.out.fin HB.out.1 HB.out.2.1 HB.out.2.2.1 HB.out.2.2.2 H0.out⟩
   ·go_simp
    have hd := D17_.out.a6
    refine hK.out _ _ (HBX.out _ hd.bel) (fun _ => ?_)
    clear hK
    try simp only [Act.put, z1, z2, z3, z4, z5, z6]
    obtain ⟨g6, hgg⟩ : ∃ y, u17_.heap.size = y := ⟨_, rfl⟩
    obtain ⟨u28_, huu⟩ : ∃ y, u17_.alloc (.cells #[.slice none 0 0, .slice none 0 0, .bool false] 79) = y := ⟨_, rfl⟩
    rw [hgg, huu] at hd ⊢
    have D28_ := Lib.hid hd
    clear hd hgg huu
    refine wpAnyH_ready (rs := [1, 5]) (by kernel_rfl) (by simp) ?_
    refine AllReadyH.cons rfl (fun k_ hK => ?_) (AllReadyH.cons rfl (fun k_ hK => ?_) (AllReadyH.nil))
    ·have hmk := HMK.out
     go_simp
     have hd := D28_.out.a1 (by have := HB.out.2.1; omega) HMM.out
     refine hK.out _ _ (HBX.out _ hd.bel) (fun _ => ?_)
     clear hK hmk
     try simp only [Act.put, z1, z2, z3, z4, z5, z6]
     obtain ⟨g1, hgg⟩ : ∃ y, u28_.heap.size = y := ⟨_, rfl⟩
     obtain ⟨u29_, huu⟩ : ∃ y, u28_.alloc (.cells MM 4) = y := ⟨_, rfl⟩
     rw [hgg, huu] at hd ⊢
     have D29_ := Lib.hid hd
     clear hd hgg huu
     refine wpAnyH_ready (rs := [5]) (by kernel_rfl) (by simp) ?_
     refine AllReadyH.cons rfl (fun k_ hK => ?_) (AllReadyH.nil)
     ·go_simp
      refine (HEMP.out _ D29_.out.bel).mono ?_
      rintro e u30_ ⟨rfl, hb⟩
      have D30_ := Lib.hid (D29_.out.step hb)
      clear hb
      refine hK.out _ _ (HBX.out _ D30_.out.bel) (fun _ => ?_)
      clear hK
      try simp only [Act.put, z1, z2, z3, z4, z5, z6]
      refine tkI (i := 6) (v := .agg #[.slice (some ⟨g1, 0, none⟩) (K.n + 1) (K.n + 1), .slice (some ⟨g2, 0, none⟩) (K.n + 1) (K.n + 1), .bool x.emp]) rfl ⟨by rfl, ?_⟩ (HBX.out _ D30_.out.bel) ?_
      ·intro ww hSw
       obtain ⟨hs0, hs1, hs2⟩ := hSw
       go_simp
      try simp only [Act.put, z1, z2, z3, z4, z5, z6]
      refine wpAnyH_ready (rs := [8]) (by kernel_rfl) (by simp) ?_
      refine AllReadyH.cons rfl (fun k_ hK => ?_) AllReadyH.nil
      obtain ⟨⟨z0, z1, z2⟩, f0, f1, f2⟩ := three_cells (D30_.out.z6 _ rfl).2
      go_simp
      refine hK.out _ _ (HBX.out _ (set3'_below D30_.out.bel (D30_.out.z6 _ rfl).1 (.slice (some ⟨g1, 0, none⟩) (K.n + 1) (K.n + 1)) (.slice (some ⟨g2, 0, none⟩) (K.n + 1) (K.n + 1)) (.bool x.emp))) (fun _ => ?_)
      clear hK z0 z1 z2 f0 f1 f2
      try simp only [Act.put, z1, z2, z3, z4, z5, z6]
      refine ⟨by kernel_rfl, ?_⟩
      refine NoPanic.normal ?_
      exact ⟨rfl, g1, g2, g6, rfl, D30_.out.fin HB.out.1 HB.out.2.1 HB.out.2.2.1 HB.out.2.2.2 H0.out⟩
    ·go_simp
     refine (HEMP.out _ D28_.out.bel).mono ?_
     rintro e u31_ ⟨rfl, hb⟩
     have D31_ := Lib.hid (D28_.out.step hb)
     clear hb
     refine hK.out _ _ (HBX.out _ D31_.out.bel) (fun _ => ?_)
     clear hK
     try simp only [Act.put, z1, z2, z3, z4, z5, z6]
     refine wpAnyH_ready (rs := [1]) (by kernel_rfl) (by simp) ?_
     refine AllReadyH.cons rfl (fun k_ hK => ?_) (AllReadyH.nil)
     ·have hmk := HMK.out
      go_simp
      have hd := D31_.out.a1 (by have := HB.out.2.1; omega) HMM.out
      refine hK.out _ _ (HBX.out _ hd.bel) (fun _ => ?_)
      clear hK hmk
      try simp only [Act.put, z1, z2, z3, z4, z5, z6]
      obtain ⟨g1, hgg⟩ : ∃ y, u31_.heap.size = y := ⟨_, rfl⟩
      obtain ⟨u32_, huu⟩ : ∃ y, u31_.alloc (.cells MM 4) = y := ⟨_, rfl⟩
      rw [hgg, huu] at hd ⊢
      have D32_ := Lib.hid hd
      clear hd hgg huu
      refine tkI (i := 6) (v := .agg #[.slice (some ⟨g1, 0, none⟩) (K.n + 1) (K.n + 1), .slice (some ⟨g2, 0, none⟩) (K.n + 1) (K.n + 1), .bool x.emp]) rfl ⟨by rfl, ?_⟩ (HBX.out _ D32_.out.bel) ?_
      ·intro ww hSw
       obtain ⟨hs0, hs1, hs2⟩ := hSw
       go_simp
      try simp only [Act.put, z1, z2, z3, z4, z5, z6]
      refine wpAnyH_ready (rs := [8]) (by kernel_rfl) (by simp) ?_
      refine AllReadyH.cons rfl (fun k_ hK => ?_) AllReadyH.nil
      obtain ⟨⟨z0, z1, z2⟩, f0, f1, f2⟩ := three_cells (D32_.out.z6 _ rfl).2
      go_simp
      refine hK.out _ _ (HBX.out _ (set3'_below D32_.out.bel (D32_.out.z6 _ rfl).1 (.slice (some ⟨g1, 0, none⟩) (K.n + 1) (K.n + 1)) (.slice (some ⟨g2, 0, none⟩) (K.n + 1) (K.n + 1)) (.bool x.emp))) (fun _ => ?_)
      clear hK z0 z1 z2 f0 f1 f2
      try simp only [Act.put, z1, z2, z3, z4, z5, z6]
      refine ⟨by kernel_rfl, ?_⟩
      refine NoPanic.normal ?_
      exact ⟨rfl, g1, g2, g6, rfl, D32_.out.fin HB.out.1 HB.out.2.1 HB.out.2.2.1 HB.out.2.2.2 H0.out⟩
  ·go_simp
   refine (HEMP.out _ DD.out.bel).mono ?_
   rintro e u33_ ⟨rfl, hb⟩
   have D33_ := Lib.hid (DD.out.step hb)
   clear hb
   refine hK.out _ _ (HBX.out _ D33_.out.bel) (fun _ => ?_)
   clear hK
   try simp only [Act.put, z1, z2, z3, z4, z5, z6]
   refine wpAnyH_ready (rs := [1, 3, 7]) (by kernel_rfl) (by simp) ?_
   refine AllReadyH.cons rfl (fun k_ hK => ?_) (AllReadyH.cons rfl (fun k_ hK => ?_) (AllReadyH.cons rfl (fun k_ hK => ?_) (AllReadyH.nil)))
   ·have hmk := HMK.out
    go_simp
    have hd := D33_.out.a1 (by have := HB.out.2.1; omega) HMM.out
    refine hK.out _ _ (HBX.out _ hd.bel) (fun _ => ?_)
    clear hK hmk
    try simp only [Act.put, z1, z2, z3, z4, z5, z6]
    obtain ⟨g1, hgg⟩ : ∃ y, u33_.heap.size = y := ⟨_, rfl⟩
    obtain ⟨u34_, huu⟩ : ∃ y, u33_.alloc (.cells MM 4) = y := ⟨_, rfl⟩
    rw [hgg, huu] at hd ⊢
    have D34_ := Lib.hid hd
    clear hd hgg huu
    refine wpAnyH_ready (rs := [3, 7]) (by kernel_rfl) (by simp) ?_
    refine AllReadyH.cons rfl (fun k_ hK => ?_) (AllReadyH.cons rfl (fun k_ hK => ?_) (AllReadyH.nil))
    ·have hmk := HMK.out
     go_simp
     have hd := D34_.out.a2 (by have := HB.out.2.1; omega) HMM.out
     refine hK.out _ _ (HBX.out _ hd.bel) (fun _ => ?_)
     clear hK hmk
     try simp only [Act.put, z1, z2, z3, z4, z5, z6]
     obtain ⟨g2, hgg⟩ : ∃ y, u34_.heap.size = y := ⟨_, rfl⟩
     obtain ⟨u35_, huu⟩ : ∃ y, u34_.alloc (.cells MM 4) = y := ⟨_, rfl⟩
     rw [hgg, huu] at hd ⊢
     have D35_ := Lib.hid hd
     clear hd hgg huu
     refine tkI (i := 6) (v := .agg #[.slice (some ⟨g1, 0, none⟩) (K.n + 1) (K.n + 1), .slice (some ⟨g2, 0, none⟩) (K.n + 1) (K.n + 1), .bool x.emp]) rfl ⟨by rfl, ?_⟩ (HBX.out _ D35_.out.bel) ?_
     ·intro ww hSw
      obtain ⟨hs0, hs1, hs2⟩ := hSw
      go_simp
     try simp only [Act.put, z1, z2, z3, z4, z5, z6]
     refine wpAnyH_ready (rs := [7]) (by kernel_rfl) (by simp) ?_
     refine AllReadyH.cons rfl (fun k_ hK => ?_) (AllReadyH.nil)
     ·go_simp
      have hd := D35_.out.a6
      refine hK.out _ _ (HBX.out _ hd.bel) (fun _ => ?_)
      clear hK
      try simp only [Act.put, z1, z2, z3, z4, z5, z6]
      obtain ⟨g6, hgg⟩ : ∃ y, u35_.heap.size = y := ⟨_, rfl⟩
      obtain ⟨u36_, huu⟩ : ∃ y, u35_.alloc (.cells #[.slice none 0 0, .slice none 0 0, .bool false] 79) = y := ⟨_, rfl⟩
      rw [hgg, huu] at hd ⊢
      have D36_ := Lib.hid hd
      clear hd hgg huu
      refine wpAnyH_ready (rs := [8]) (by kernel_rfl) (by simp) ?_
      refine AllReadyH.cons rfl (fun k_ hK => ?_) AllReadyH.nil
      obtain ⟨⟨z0, z1, z2⟩, f0, f1, f2⟩ := three_cells (D36_.out.z6 _ rfl).2
      go_simp
      refine hK.out _ _ (HBX.out _ (set3'_below D36_.out.bel (D36_.out.z6 _ rfl).1 (.slice (some ⟨g1, 0, none⟩) (K.n + 1) (K.n + 1)) (.slice (some ⟨g2, 0, none⟩) (K.n + 1) (K.n + 1)) (.bool x.emp))) (fun _ => ?_)
      clear hK z0 z1 z2 f0 f1 f2
      try simp only [Act.put, z1, z2, z3, z4, z5, z6]
      refine ⟨by kernel_rfl, ?_⟩
      refine NoPanic.normal ?_
      exact ⟨rfl, g1, g2, g6, rfl, D36_.out.fin HB.out.1 HB.out.2.1 HB.out.2.2.1 HB.out.2.2.2 H0.out⟩
    ·go_simp
     have hd := D34_.out.a6
     refine hK.out _ _ (HBX.out _ hd.bel) (fun _ => ?_)
     clear hK
     try simp only [Act.put, z1, z2, z3, z4, z5, z6]
     obtain ⟨g6, hgg⟩ : ∃ y, u34_.heap.size = y := ⟨_, rfl⟩
     obtain ⟨u37_, huu⟩ : ∃ y, u34_.alloc (.cells #[.slice none 0 0, .slice none 0 0, .bool false] 79) = y := ⟨_, rfl⟩
     rw [hgg, huu] at hd ⊢
     have D37_ := Lib.hid hd
     clear hd hgg huu
     refine wpAnyH_ready (rs := [3]) (by kernel_rfl) (by simp) ?_
     refine AllReadyH.cons rfl (fun k_ hK => ?_) (AllReadyH.nil)
     ·have hmk := HMK.out
      go_simp
      have hd := D37_.out.a2 (by have := HB.out.2.1; omega) HMM.out
      refine hK.out _ _ (HBX.out _ hd.bel) (fun _ => ?_)
      clear hK hmk
      try simp only [Act.put, z1, z2, z3, z4, z5, z6]
      obtain ⟨g2, hgg⟩ : ∃ y, u37_.heap.size = y := ⟨_, rfl⟩
      obtain ⟨u38_, huu⟩ : ∃ y, u37_.alloc (.cells MM 4) = y := ⟨_, rfl⟩
      rw [hgg, huu] at hd ⊢
      have D38_ := Lib.hid hd
      clear hd hgg huu
      refine tkI (i := 6) (v := .agg #[.slice (some ⟨g1, 0, none⟩) (K.n + 1) (K.n + 1), .slice (some ⟨g2, 0, none⟩) (K.n + 1) (K.n + 1), .bool x.emp]) rfl ⟨by rfl, ?_⟩ (HBX.out _ D38_.out.bel) ?_
      ·intro ww hSw
       obtain ⟨hs0, hs1, hs2⟩ := hSw
       go_simp
      try simp only [Act.put, z1, z2, z3, z4, z5, z6]
      refine wpAnyH_ready (rs := [8]) (by kernel_rfl) (by simp) ?_
      refine AllReadyH.cons rfl (fun k_ hK => ?_) AllReadyH.nil
      obtain ⟨⟨z0, z1, z2⟩, f0, f1, f2⟩ := three_cells (D38_.out.z6 _ rfl).2
      go_simp
      refine hK.out _ _ (HBX.out _ (set3'_below D38_.out.bel (D38_.out.z6 _ rfl).1 (.slice (some ⟨g1, 0, none⟩) (K.n + 1) (K.n + 1)) (.slice (some ⟨g2, 0, none⟩) (K.n + 1) (K.n + 1)) (.bool x.emp))) (fun _ => ?_)
      clear hK z0 z1 z2 f0 f1 f2
      try simp only [Act.put, z1, z2, z3, z4, z5, z6]
      refine ⟨by kernel_rfl, ?_⟩
      refine NoPanic.normal ?_
      exact ⟨rfl, g1, g2, g6, rfl, D38_.out.fin HB.out.1 HB.out.2.1 HB.out.2.2.1 HB.out.2.2.2 H0.out⟩
   ·have hmk := HMK.out
    go_simp
    have hd := D33_.out.a2 (by have := HB.out.2.1; omega) HMM.out
    refine hK.out _ _ (HBX.out _ hd.bel) (fun _ => ?_)
    clear hK hmk
    try simp only [Act.put, z1, z2, z3, z4, z5, z6]
    obtain ⟨g2, hgg⟩ : ∃ y, u33_.heap.size = y := ⟨_, rfl⟩
    obtain ⟨u39_, huu⟩ : ∃ y, u33_.alloc (.cells MM 4) = y := ⟨_, rfl⟩
    rw [hgg, huu] at hd ⊢
    have D39_ := Lib.hid hd
    clear hd hgg huu
    refine wpAnyH_ready (rs := [1, 7]) (by kernel_rfl) (by simp) ?_
    refine AllReadyH.cons rfl (fun k_ hK => ?_) (AllReadyH.cons rfl (fun k_ hK => ?_) (AllReadyH.nil))
    ·have hmk := HMK.out
     go_simp
     have hd := D39_.out.a1 (by have := HB.out.2.1; omega) HMM.out
     refine hK.out _ _ (HBX.out _ hd.bel) (fun _ => ?_)
     clear hK hmk
     try simp only [Act.put, z1, z2, z3, z4, z5, z6]
     obtain ⟨g1, hgg⟩ : ∃ y, u39_.heap.size = y := ⟨_, rfl⟩
     obtain ⟨u40_, huu⟩ : ∃ y, u39_.alloc (.cells MM 4) = y := ⟨_, rfl⟩
     rw [hgg, huu] at hd ⊢
     have D40_ := Lib.hid hd
     clear hd hgg huu
     refine tkI (i := 6) (v := .agg #[.slice (some ⟨g1, 0, none⟩) (K.n + 1) (K.n + 1), .slice (some ⟨g2, 0, none⟩) (K.n + 1) (K.n + 1), .bool x.emp]) rfl ⟨by rfl, ?_⟩ (HBX.out _ D40_.out.bel) ?_
     ·intro ww hSw
      obtain ⟨hs0, hs1, hs2⟩ := hSw
      go_simp
     try simp only [Act.put, z1, z2, z3, z4, z5, z6]
     refine wpAnyH_ready (rs := [7]) (by kernel_rfl) (by simp) ?_
     refine AllReadyH.cons rfl (fun k_ hK => ?_) (AllReadyH.nil)
     ·go_simp
      have hd := D40_.out.a6
      refine hK.out _ _ (HBX.out _ hd.bel) (fun _ => ?_)
      clear hK
      try simp only [Act.put, z1, z2, z3, z4, z5, z6]
      obtain ⟨g6, hgg⟩ : ∃ y, u40_.heap.size = y := ⟨_, rfl⟩
      obtain ⟨u41_, huu⟩ : ∃ y, u40_.alloc (.cells #[.slice none 0 0, .slice none 0 0, .bool false] 79) = y := ⟨_, rfl⟩
      rw [hgg, huu] at hd ⊢
      have D41_ := Lib.hid hd
      clear hd hgg huu
      refine wpAnyH_ready (rs := [8]) (by kernel_rfl) (by simp) ?_
      refine AllReadyH.cons rfl (fun k_ hK => ?_) AllReadyH.nil
      obtain ⟨⟨z0, z1, z2⟩, f0, f1, f2⟩ := three_cells (D41_.out.z6 _ rfl).2
      go_simp
      refine hK.out _ _ (HBX.out _ (set3'_below D41_.out.bel (D41_.out.z6 _ rfl).1 (.slice (some ⟨g1, 0, none⟩) (K.n + 1) (K.n + 1)) (.slice (some ⟨g2, 0, none⟩) (K.n + 1) (K.n + 1)) (.bool x.emp))) (fun _ => ?_)
      clear hK z0 z1 z2 f0 f1 f2
      try simp only [Act.put, z1, z2, z3, z4, z5, z6]
      refine ⟨by kernel_rfl, ?_⟩
      refine NoPanic.normal ?_
      exact ⟨rfl, g1, g2, g6, rfl, D41_.out.fin HB.out.1 HB.out.2.1 HB.out.2.2.1 HB.out.2.2.2 H0.out⟩
    ·go_simp
     have hd := D39_.out.a6
     refine hK.out _ _ (HBX.out _ hd.bel) (fun _ => ?_)
     clear hK
     try simp only [Act.put, z1, z2, z3, z4, z5, z6]
     obtain ⟨g6, hgg⟩ : ∃ y, u39_.heap.size = y := ⟨_, rfl⟩
     obtain ⟨u42_, huu⟩ : ∃ y, u39_.alloc (.cells #[.slice none 0 0, .slice none 0 0, .bool false] 79) = y := ⟨_, rfl⟩
     rw [hgg, huu] at hd ⊢
     have D42_ := Lib.hid hd
     clear hd hgg huu
     refine wpAnyH_ready (rs := [1]) (by kernel_rfl) (by simp) ?_
     refine AllReadyH.cons rfl (fun k_ hK => ?_) (AllReadyH.nil)
     ·have hmk := HMK.out
      go_simp
      have hd := D42_.out.a1 (by have := HB.out.2.1; omega) HMM.out
      refine hK.out _ _ (HBX.out _ hd.bel) (fun _ => ?_)
      clear hK hmk
      try simp only [Act.put, z1, z2, z3, z4, z5, z6]
      obtain ⟨g1, hgg⟩ : ∃ y, u42_.heap.size = y := ⟨_, rfl⟩
      obtain ⟨u43_, huu⟩ : ∃ y, u42_.alloc (.cells MM 4) = y := ⟨_, rfl⟩
      rw [hgg, huu] at hd ⊢
      have D43_ := Lib.hid hd
      clear hd hgg huu
      refine tkI (i := 6) (v := .agg #[.slice (some ⟨g1, 0, none⟩) (K.n + 1) (K.n + 1), .slice (some ⟨g2, 0, none⟩) (K.n + 1) (K.n + 1), .bool x.emp]) rfl ⟨by rfl, ?_⟩ (HBX.out _ D43_.out.bel) ?_
      ·intro ww hSw
       obtain ⟨hs0, hs1, hs2⟩ := hSw
       go_simp
      try simp only [Act.put, z1, z2, z3, z4, z5, z6]
      refine wpAnyH_ready (rs := [8]) (by kernel_rfl) (by simp) ?_
      refine AllReadyH.cons rfl (fun k_ hK => ?_) AllReadyH.nil
      obtain ⟨⟨z0, z1, z2⟩, f0, f1, f2⟩ := three_cells (D43_.out.z6 _ rfl).2
      go_simp
      refine hK.out _ _ (HBX.out _ (set3'_below D43_.out.bel (D43_.out.z6 _ rfl).1 (.slice (some ⟨g1, 0, none⟩) (K.n + 1) (K.n + 1)) (.slice (some ⟨g2, 0, none⟩) (K.n + 1) (K.n + 1)) (.bool x.emp))) (fun _ => ?_)
      clear hK z0 z1 z2 f0 f1 f2
      try simp only [Act.put, z1, z2, z3, z4, z5, z6]
      refine ⟨by kernel_rfl, ?_⟩
      refine NoPanic.normal ?_
      exact ⟨rfl, g1, g2, g6, rfl, D43_.out.fin HB.out.1 HB.out.2.1 HB.out.2.2.1 HB.out.2.2.2 H0.out⟩
   ·go_simp
    have hd := D33_.out.a6
    refine hK.out _ _ (HBX.out _ hd.bel) (fun _ => ?_)
    clear hK
    try simp only [Act.put, z1, z2, z3, z4, z5, z6]
    obtain ⟨g6, hgg⟩ : ∃ y, u33_.heap.size = y := ⟨_, rfl⟩
    obtain ⟨u44_, huu⟩ : ∃ y, u33_.alloc (.cells #[.slice none 0 0, .slice none 0 0, .bool false] 79) = y := ⟨_, rfl⟩
    rw [hgg, huu] at hd ⊢
    have D44_ := Lib.hid hd
    clear hd hgg huu
    refine wpAnyH_ready (rs := [1, 3]) (by kernel_rfl) (by simp) ?_
    refine AllReadyH.cons rfl (fun k_ hK => ?_) (AllReadyH.cons rfl (fun k_ hK => ?_) (AllReadyH.nil))
    ·have hmk := HMK.out
     go_simp
     have hd := D44_.out.a1 (by have := HB.out.2.1; omega) HMM.out
     refine hK.out _ _ (HBX.out _ hd.bel) (fun _ => ?_)
     clear hK hmk
     try simp only [Act.put, z1, z2, z3, z4, z5, z6]
     obtain ⟨g1, hgg⟩ : ∃ y, u44_.heap.size = y := ⟨_, rfl⟩
     obtain ⟨u45_, huu⟩ : ∃ y, u44_.alloc (.cells MM 4) = y := ⟨_, rfl⟩
     rw [hgg, huu] at hd ⊢
     have D45_ := Lib.hid hd
     clear hd hgg huu
     refine wpAnyH_ready (rs := [3]) (by kernel_rfl) (by simp) ?_
     refine AllReadyH.cons rfl (fun k_ hK => ?_) (AllReadyH.nil)
     ·have hmk := HMK.out
      go_simp
      have hd := D45_.out.a2 (by have := HB.out.2.1; omega) HMM.out
      refine hK.out _ _ (HBX.out _ hd.bel) (fun _ => ?_)
      clear hK hmk
      try simp only [Act.put, z1, z2, z3, z4, z5, z6]
      obtain ⟨g2, hgg⟩ : ∃ y, u45_.heap.size = y := ⟨_, rfl⟩
      obtain ⟨u46_, huu⟩ : ∃ y, u45_.alloc (.cells MM 4) = y := ⟨_, rfl⟩
      rw [hgg, huu] at hd ⊢
      have D46_ := Lib.hid hd
      clear hd hgg huu
      refine tkI (i := 6) (v := .agg #[.slice (some ⟨g1, 0, none⟩) (K.n + 1) (K.n + 1), .slice (some ⟨g2, 0, none⟩) (K.n + 1) (K.n + 1), .bool x.emp]) rfl ⟨by rfl, ?_⟩ (HBX.out _ D46_.out.bel) ?_
      ·intro ww hSw
       obtain ⟨hs0, hs1, hs2⟩ := hSw
       go_simp
      try simp only [Act.put, z1, z2, z3, z4, z5, z6]
      refine wpAnyH_ready (rs := [8]) (by kernel_rfl) (by simp) ?_
      refine AllReadyH.cons rfl (fun k_ hK => ?_) AllReadyH.nil
      obtain ⟨⟨z0, z1, z2⟩, f0, f1, f2⟩ := three_cells (D46_.out.z6 _ rfl).2
      go_simp
      refine hK.out _ _ (HBX.out _ (set3'_below D46_.out.bel (D46_.out.z6 _ rfl).1 (.slice (some ⟨g1, 0, none⟩) (K.n + 1) (K.n + 1)) (.slice (some ⟨g2, 0, none⟩) (K.n + 1) (K.n + 1)) (.bool x.emp))) (fun _ => ?_)
      clear hK z0 z1 z2 f0 f1 f2
      try simp only [Act.put, z1, z2, z3, z4, z5, z6]
      refine ⟨by kernel_rfl, ?_⟩
      refine NoPanic.normal ?_
      exact ⟨rfl, g1, g2, g6, rfl, D46_.out.fin HB.out.1 HB.out.2.1 HB.out.2.2.1 HB.out.2.2.2 H0.out⟩
    ·have hmk := HMK.out
     go_simp
     have hd := D44_.out.a2 (by have := HB.out.2.1; omega) HMM.out
     refine hK.out _ _ (HBX.out _ hd.bel) (fun _ => ?_)
     clear hK hmk
     try simp only [Act.put, z1, z2, z3, z4, z5, z6]
     obtain ⟨g2, hgg⟩ : ∃ y, u44_.heap.size = y := ⟨_, rfl⟩
     obtain ⟨u47_, huu⟩ : ∃ y, u44_.alloc (.cells MM 4) = y := ⟨_, rfl⟩
     rw [hgg, huu] at hd ⊢
     have D47_ := Lib.hid hd
     clear hd hgg huu
     refine wpAnyH_ready (rs := [1]) (by kernel_rfl) (by simp) ?_
     refine AllReadyH.cons rfl (fun k_ hK => ?_) (AllReadyH.nil)
     ·have hmk := HMK.out
      go_simp
      have hd := D47_.out.a1 (by have := HB.out.2.1; omega) HMM.out
      refine hK.out _ _ (HBX.out _ hd.bel) (fun _ => ?_)
      clear hK hmk
      try simp only [Act.put, z1, z2, z3, z4, z5, z6]
      obtain ⟨g1, hgg⟩ : ∃ y, u47_.heap.size = y := ⟨_, rfl⟩
      obtain ⟨u48_, huu⟩ : ∃ y, u47_.alloc (.cells MM 4) = y := ⟨_, rfl⟩
      rw [hgg, huu] at hd ⊢
      have D48_ := Lib.hid hd
      clear hd hgg huu
      refine tkI (i := 6) (v := .agg #[.slice (some ⟨g1, 0, none⟩) (K.n + 1) (K.n + 1), .slice (some ⟨g2, 0, none⟩) (K.n + 1) (K.n + 1), .bool x.emp]) rfl ⟨by rfl, ?_⟩ (HBX.out _ D48_.out.bel) ?_
      ·intro ww hSw
       obtain ⟨hs0, hs1, hs2⟩ := hSw
       go_simp
      try simp only [Act.put, z1, z2, z3, z4, z5, z6]
      refine wpAnyH_ready (rs := [8]) (by kernel_rfl) (by simp) ?_
      refine AllReadyH.cons rfl (fun k_ hK => ?_) AllReadyH.nil
      obtain ⟨⟨z0, z1, z2⟩, f0, f1, f2⟩ := three_cells (D48_.out.z6 _ rfl).2
      go_simp
      refine hK.out _ _ (HBX.out _ (set3'_below D48_.out.bel (D48_.out.z6 _ rfl).1 (.slice (some ⟨g1, 0, none⟩) (K.n + 1) (K.n + 1)) (.slice (some ⟨g2, 0, none⟩) (K.n + 1) (K.n + 1)) (.bool x.emp))) (fun _ => ?_)
      clear hK z0 z1 z2 f0 f1 f2
      try simp only [Act.put, z1, z2, z3, z4, z5, z6]
      refine ⟨by kernel_rfl, ?_⟩
      refine NoPanic.normal ?_
      exact ⟨rfl, g1, g2, g6, rfl, D48_.out.fin HB.out.1 HB.out.2.1 HB.out.2.2.1 HB.out.2.2.2 H0.out⟩
  ·go_simp
   have hd := DD.out.a6
   refine hK.out _ _ (HBX.out _ hd.bel) (fun _ => ?_)
   clear hK
   try simp only [Act.put, z1, z2, z3, z4, z5, z6]
   obtain ⟨g6, hgg⟩ : ∃ y, D0_.heap.size = y := ⟨_, rfl⟩
   obtain ⟨u49_, huu⟩ : ∃ y, D0_.alloc (.cells #[.slice none 0 0, .slice none 0 0, .bool false] 79) = y := ⟨_, rfl⟩
   rw [hgg, huu] at hd ⊢
   have D49_ := Lib.hid hd
   clear hd hgg huu
   refine wpAnyH_ready (rs := [1, 3, 5]) (by kernel_rfl) (by simp) ?_
   refine AllReadyH.cons rfl (fun k_ hK => ?_) (AllReadyH.cons rfl (fun k_ hK => ?_) (AllReadyH.cons rfl (fun k_ hK => ?_) (AllReadyH.nil)))
   ·have hmk := HMK.out
    go_simp
    have hd := D49_.out.a1 (by have := HB.out.2.1; omega) HMM.out
    refine hK.out _ _ (HBX.out _ hd.bel) (fun _ => ?_)
    clear hK hmk
    try simp only [Act.put, z1, z2, z3, z4, z5, z6]
    obtain ⟨g1, hgg⟩ : ∃ y, u49_.heap.size = y := ⟨_, rfl⟩
    obtain ⟨u50_, huu⟩ : ∃ y, u49_.alloc (.cells MM 4) = y := ⟨_, rfl⟩
    rw [hgg, huu] at hd ⊢
    have D50_ := Lib.hid hd
    clear hd hgg huu
    refine wpAnyH_ready (rs := [3, 5]) (by kernel_rfl) (by simp) ?_
    refine AllReadyH.cons rfl (fun k_ hK => ?_) (AllReadyH.cons rfl (fun k_ hK => ?_) (AllReadyH.nil))
    ·have hmk := HMK.out
     go_simp
     have hd := D50_.out.a2 (by have := HB.out.2.1; omega) HMM.out
     refine hK.out _ _ (HBX.out _ hd.bel) (fun _ => ?_)
     clear hK hmk
     try simp only [Act.put, z1, z2, z3, z4, z5, z6]
     obtain ⟨g2, hgg⟩ : ∃ y, u50_.heap.size = y := ⟨_, rfl⟩
     obtain ⟨u51_, huu⟩ : ∃ y, u50_.alloc (.cells MM 4) = y := ⟨_, rfl⟩
     rw [hgg, huu] at hd ⊢
     have D51_ := Lib.hid hd
     clear hd hgg huu
     refine wpAnyH_ready (rs := [5]) (by kernel_rfl) (by simp) ?_
     refine AllReadyH.cons rfl (fun k_ hK => ?_) (AllReadyH.nil)
     ·go_simp
      refine (HEMP.out _ D51_.out.bel).mono ?_
      rintro e u52_ ⟨rfl, hb⟩
      have D52_ := Lib.hid (D51_.out.step hb)
      clear hb
      refine hK.out _ _ (HBX.out _ D52_.out.bel) (fun _ => ?_)
      clear hK
      try simp only [Act.put, z1, z2, z3, z4, z5, z6]
      refine tkI (i := 6) (v := .agg #[.slice (some ⟨g1, 0, none⟩) (K.n + 1) (K.n + 1), .slice (some ⟨g2, 0, none⟩) (K.n + 1) (K.n + 1), .bool x.emp]) rfl ⟨by rfl, ?_⟩ (HBX.out _ D52_.out.bel) ?_
      ·intro ww hSw
       obtain ⟨hs0, hs1, hs2⟩ := hSw
       go_simp
      try simp only [Act.put, z1, z2, z3, z4, z5, z6]
      refine wpAnyH_ready (rs := [8]) (by kernel_rfl) (by simp) ?_
      refine AllReadyH.cons rfl (fun k_ hK => ?_) AllReadyH.nil
      obtain ⟨⟨z0, z1, z2⟩, f0, f1, f2⟩ := three_cells (D52_.out.z6 _ rfl).2
      go_simp
      refine hK.out _ _ (HBX.out _ (set3'_below D52_.out.bel (D52_.out.z6 _ rfl).1 (.slice (some ⟨g1, 0, none⟩) (K.n + 1) (K.n + 1)) (.slice (some ⟨g2, 0, none⟩) (K.n + 1) (K.n + 1)) (.bool x.emp))) (fun _ => ?_)
      clear hK z0 z1 z2 f0 f1 f2
      try simp only [Act.put, z1, z2, z3, z4, z5, z6]
      refine ⟨by kernel_rfl, ?_⟩
      refine NoPanic.normal ?_
      exact ⟨rfl, g1, g2, g6, rfl, D52_.out.fin HB.out.1 HB.out.2.1 HB.out.2.2.1 HB.out.2.2.2 H0.out⟩
    ·go_simp
     refine (HEMP.out _ D50_.out.bel).mono ?_
     rintro e u53_ ⟨rfl, hb⟩
     have D53_ := Lib.hid (D50_.out.step hb)
     clear hb
     refine hK.out _ _ (HBX.out _ D53_.out.bel) (fun _ => ?_)
     clear hK
     try simp only [Act.put, z1, z2, z3, z4, z5, z6]
     refine wpAnyH_ready (rs := [3]) (by kernel_rfl) (by simp) ?_
     refine AllReadyH.cons rfl (fun k_ hK => ?_) (AllReadyH.nil)
     ·have hmk := HMK.out
      go_simp
      have hd := D53_.out.a2 (by have := HB.out.2.1; omega) HMM.out
      refine hK.out _ _ (HBX.out _ hd.bel) (fun _ => ?_)
      clear hK hmk
      try simp only [Act.put, z1, z2, z3, z4, z5, z6]
      obtain ⟨g2, hgg⟩ : ∃ y, u53_.heap.size = y := ⟨_, rfl⟩
      obtain ⟨u54_, huu⟩ : ∃ y, u53_.alloc (.cells MM 4) = y := ⟨_, rfl⟩
      rw [hgg, huu] at hd ⊢
      have D54_ := Lib.hid hd
      clear hd hgg huu
      refine tkI (i := 6) (v := .agg #[.slice (some ⟨g1, 0, none⟩) (K.n + 1) (K.n + 1), .slice (some ⟨g2, 0, none⟩) (K.n + 1) (K.n + 1), .bool x.emp]) rfl ⟨by rfl, ?_⟩ (HBX.out _ D54_.out.bel) ?_
      ·intro ww hSw
       obtain ⟨hs0, hs1, hs2⟩ := hSw
       go_simp
      try simp only [Act.put, z1, z2, z3, z4, z5, z6]
      refine wpAnyH_ready (rs := [8]) (by kernel_rfl) (by simp) ?_
      refine AllReadyH.cons rfl (fun k_ hK => ?_) AllReadyH.nil
      obtain ⟨⟨z0, z1, z2⟩, f0, f1, f2⟩ := three_cells (D54_.out.z6 _ rfl).2
      go_simp
      refine hK.out _ _ (HBX.out _ (set3'_below D54_.out.bel (D54_.out.z6 _ rfl).1 (.slice (some ⟨g1, 0, none⟩) (K.n + 1) (K.n + 1)) (.slice (some ⟨g2, 0, none⟩) (K.n + 1) (K.n + 1)) (.bool x.emp))) (fun _ => ?_)
      clear hK z0 z1 z2 f0 f1 f2
      try simp only [Act.put, z1, z2, z3, z4, z5, z6]
      refine ⟨by kernel_rfl, ?_⟩
      refine NoPanic.normal ?_
      exact ⟨rfl, g1, g2, g6, rfl, D54_.out.fin HB.out.1 HB.out.2.1 HB.out.2.2.1 HB.out.2.2.2 H0.out⟩
   ·have hmk := HMK.out
    go_simp
    have hd := D49_.out.a2 (by have := HB.out.2.1; omega) HMM.out
    refine hK.out _ _ (HBX.out _ hd.bel) (fun _ => ?_)
    clear hK hmk
    try simp only [Act.put, z1, z2, z3, z4, z5, z6]
    obtain ⟨g2, hgg⟩ : ∃ y, u49_.heap.size = y := ⟨_, rfl⟩
    obtain ⟨u55_, huu⟩ : ∃ y, u49_.alloc (.cells MM 4) = y := ⟨_, rfl⟩
    rw [hgg, huu] at hd ⊢
    have D55_ := Lib.hid hd
    clear hd hgg huu
    refine wpAnyH_ready (rs := [1, 5]) (by kernel_rfl) (by simp) ?_
    refine AllReadyH.cons rfl (fun k_ hK => ?_) (AllReadyH.cons rfl (fun k_ hK => ?_) (AllReadyH.nil))
    ·have hmk := HMK.out
     go_simp
     have hd := D55_.out.a1 (by have := HB.out.2.1; omega) HMM.out
     refine hK.out _ _ (HBX.out _ hd.bel) (fun _ => ?_)
     clear hK hmk
     try simp only [Act.put, z1, z2, z3, z4, z5, z6]
     obtain ⟨g1, hgg⟩ : ∃ y, u55_.heap.size = y := ⟨_, rfl⟩
     obtain ⟨u56_, huu⟩ : ∃ y, u55_.alloc (.cells MM 4) = y := ⟨_, rfl⟩
     rw [hgg, huu] at hd ⊢
     have D56_ := Lib.hid hd
     clear hd hgg huu
     refine wpAnyH_ready (rs := [5]) (by kernel_rfl) (by simp) ?_
     refine AllReadyH.cons rfl (fun k_ hK => ?_) (AllReadyH.nil)
     ·go_simp
      refine (HEMP.out _ D56_.out.bel).mono ?_
      rintro e u57_ ⟨rfl, hb⟩
      have D57_ := Lib.hid (D56_.out.step hb)
      clear hb
      refine hK.out _ _ (HBX.out _ D57_.out.bel) (fun _ => ?_)
      clear hK
      try simp only [Act.put, z1, z2, z3, z4, z5, z6]
      refine tkI (i := 6) (v := .agg #[.slice (some ⟨g1, 0, none⟩) (K.n + 1) (K.n + 1), .slice (some ⟨g2, 0, none⟩) (K.n + 1) (K.n + 1), .bool x.emp]) rfl ⟨by rfl, ?_⟩ (HBX.out _ D57_.out.bel) ?_
      ·intro ww hSw
       obtain ⟨hs0, hs1, hs2⟩ := hSw
       go_simp
      try simp only [Act.put, z1, z2, z3, z4, z5, z6]
      refine wpAnyH_ready (rs := [8]) (by kernel_rfl) (by simp) ?_
      refine AllReadyH.cons rfl (fun k_ hK => ?_) AllReadyH.nil
      obtain ⟨⟨z0, z1, z2⟩, f0, f1, f2⟩ := three_cells (D57_.out.z6 _ rfl).2
      go_simp
      refine hK.out _ _ (HBX.out _ (set3'_below D57_.out.bel (D57_.out.z6 _ rfl).1 (.slice (some ⟨g1, 0, none⟩) (K.n + 1) (K.n + 1)) (.slice (some ⟨g2, 0, none⟩) (K.n + 1) (K.n + 1)) (.bool x.emp))) (fun _ => ?_)
      clear hK z0 z1 z2 f0 f1 f2
      try simp only [Act.put, z1, z2, z3, z4, z5, z6]
      refine ⟨by kernel_rfl, ?_⟩
      refine NoPanic.normal ?_
      exact ⟨rfl, g1, g2, g6, rfl, D57_.out.fin HB.out.1 HB.out.2.1 HB.out.2.2.1 HB.out.2.2.2 H0.out⟩
    ·go_simp
     refine (HEMP.out _ D55_.out.bel).mono ?_
     rintro e u58_ ⟨rfl, hb⟩
     have D58_ := Lib.hid (D55_.out.step hb)
     clear hb
     refine hK.out _ _ (HBX.out _ D58_.out.bel) (fun _ => ?_)
     clear hK
     try simp only [Act.put, z1, z2, z3, z4, z5, z6]
     refine wpAnyH_ready (rs := [1]) (by kernel_rfl) (by simp) ?_
     refine AllReadyH.cons rfl (fun k_ hK => ?_) (AllReadyH.nil)
     ·have hmk := HMK.out
      go_simp
      have hd := D58_.out.a1 (by have := HB.out.2.1; omega) HMM.out
      refine hK.out _ _ (HBX.out _ hd.bel) (fun _ => ?_)
      clear hK hmk
      try simp only [Act.put, z1, z2, z3, z4, z5, z6]
      obtain ⟨g1, hgg⟩ : ∃ y, u58_.heap.size = y := ⟨_, rfl⟩
      obtain ⟨u59_, huu⟩ : ∃ y, u58_.alloc (.cells MM 4) = y := ⟨_, rfl⟩
      rw [hgg, huu] at hd ⊢
      have D59_ := Lib.hid hd
      clear hd hgg huu
      refine tkI (i := 6) (v := .agg #[.slice (some ⟨g1, 0, none⟩) (K.n + 1) (K.n + 1), .slice (some ⟨g2, 0, none⟩) (K.n + 1) (K.n + 1), .bool x.emp]) rfl ⟨by rfl, ?_⟩ (HBX.out _ D59_.out.bel) ?_
      ·intro ww hSw
       obtain ⟨hs0, hs1, hs2⟩ := hSw
       go_simp
      try simp only [Act.put, z1, z2, z3, z4, z5, z6]
      refine wpAnyH_ready (rs := [8]) (by kernel_rfl) (by simp) ?_
      refine AllReadyH.cons rfl (fun k_ hK => ?_) AllReadyH.nil
      obtain ⟨⟨z0, z1, z2⟩, f0, f1, f2⟩ := three_cells (D59_.out.z6 _ rfl).2
      go_simp
      refine hK.out _ _ (HBX.out _ (set3'_below D59_.out.bel (D59_.out.z6 _ rfl).1 (.slice (some ⟨g1, 0, none⟩) (K.n + 1) (K.n + 1)) (.slice (some ⟨g2, 0, none⟩) (K.n + 1) (K.n + 1)) (.bool x.emp))) (fun _ => ?_)
      clear hK z0 z1 z2 f0 f1 f2
      try simp only [Act.put, z1, z2, z3, z4, z5, z6]
      refine ⟨by kernel_rfl, ?_⟩
      refine NoPanic.normal ?_
      exact ⟨rfl, g1, g2, g6, rfl, D59_.out.fin HB.out.1 HB.out.2.1 HB.out.2.2.1 HB.out.2.2.2 H0.out⟩
   ·go_simp
    refine (HEMP.out _ D49_.out.bel).mono ?_
    rintro e u60_ ⟨rfl, hb⟩
    have D60_ := Lib.hid (D49_.out.step hb)
    clear hb
    refine hK.out _ _ (HBX.out _ D60_.out.bel) (fun _ => ?_)
    clear hK
    try simp only [Act.put, z1, z2, z3, z4, z5, z6]
    refine wpAnyH_ready (rs := [1, 3]) (by kernel_rfl) (by simp) ?_
    refine AllReadyH.cons rfl (fun k_ hK => ?_) (AllReadyH.cons rfl (fun k_ hK => ?_) (AllReadyH.nil))
    ·have hmk := HMK.out
     go_simp
     have hd := D60_.out.a1 (by have := HB.out.2.1; omega) HMM.out
     refine hK.out _ _ (HBX.out _ hd.bel) (fun _ => ?_)
     clear hK hmk
     try simp only [Act.put, z1, z2, z3, z4, z5, z6]
     obtain ⟨g1, hgg⟩ : ∃ y, u60_.heap.size = y := ⟨_, rfl⟩
     obtain ⟨u61_, huu⟩ : ∃ y, u60_.alloc (.cells MM 4) = y := ⟨_, rfl⟩
     rw [hgg, huu] at hd ⊢
     have D61_ := Lib.hid hd
     clear hd hgg huu
     refine wpAnyH_ready (rs := [3]) (by kernel_rfl) (by simp) ?_
     refine AllReadyH.cons rfl (fun k_ hK => ?_) (AllReadyH.nil)
     ·have hmk := HMK.out
      go_simp
      have hd := D61_.out.a2 (by have := HB.out.2.1; omega) HMM.out
      refine hK.out _ _ (HBX.out _ hd.bel) (fun _ => ?_)
      clear hK hmk
      try simp only [Act.put, z1, z2, z3, z4, z5, z6]
      obtain ⟨g2, hgg⟩ : ∃ y, u61_.heap.size = y := ⟨_, rfl⟩
      obtain ⟨u62_, huu⟩ : ∃ y, u61_.alloc (.cells MM 4) = y := ⟨_, rfl⟩
      rw [hgg, huu] at hd ⊢
      have D62_ := Lib.hid hd
      clear hd hgg huu
      refine tkI (i := 6) (v := .agg #[.slice (some ⟨g1, 0, none⟩) (K.n + 1) (K.n + 1), .slice (some ⟨g2, 0, none⟩) (K.n + 1) (K.n + 1), .bool x.emp]) rfl ⟨by rfl, ?_⟩ (HBX.out _ D62_.out.bel) ?_
      ·intro ww hSw
       obtain ⟨hs0, hs1, hs2⟩ := hSw
       go_simp
      try simp only [Act.put, z1, z2, z3, z4, z5, z6]
      refine wpAnyH_ready (rs := [8]) (by kernel_rfl) (by simp) ?_
      refine AllReadyH.cons rfl (fun k_ hK => ?_) AllReadyH.nil
      obtain ⟨⟨z0, z1, z2⟩, f0, f1, f2⟩ := three_cells (D62_.out.z6 _ rfl).2
      go_simp
      refine hK.out _ _ (HBX.out _ (set3'_below D62_.out.bel (D62_.out.z6 _ rfl).1 (.slice (some ⟨g1, 0, none⟩) (K.n + 1) (K.n + 1)) (.slice (some ⟨g2, 0, none⟩) (K.n + 1) (K.n + 1)) (.bool x.emp))) (fun _ => ?_)
      clear hK z0 z1 z2 f0 f1 f2
      try simp only [Act.put, z1, z2, z3, z4, z5, z6]
      refine ⟨by kernel_rfl, ?_⟩
      refine NoPanic.normal ?_
      exact ⟨rfl, g1, g2, g6, rfl, D62_.out.fin HB.out.1 HB.out.2.1 HB.out.2.2.1 HB.out.2.2.2 H0.out⟩
    ·have hmk := HMK.out
     go_simp
     have hd := D60_.out.a2 (by have := HB.out.2.1; omega) HMM.out
     refine hK.out _ _ (HBX.out _ hd.bel) (fun _ => ?_)
     clear hK hmk
     try simp only [Act.put, z1, z2, z3, z4, z5, z6]
     obtain ⟨g2, hgg⟩ : ∃ y, u60_.heap.size = y := ⟨_, rfl⟩
     obtain ⟨u63_, huu⟩ : ∃ y, u60_.alloc (.cells MM 4) = y := ⟨_, rfl⟩
     rw [hgg, huu] at hd ⊢
     have D63_ := Lib.hid hd
     clear hd hgg huu
     refine wpAnyH_ready (rs := [1]) (by kernel_rfl) (by simp) ?_
     refine AllReadyH.cons rfl (fun k_ hK => ?_) (AllReadyH.nil)
     ·have hmk := HMK.out
      go_simp
      have hd := D63_.out.a1 (by have := HB.out.2.1; omega) HMM.out
      refine hK.out _ _ (HBX.out _ hd.bel) (fun _ => ?_)
      clear hK hmk
      try simp only [Act.put, z1, z2, z3, z4, z5, z6]
      obtain ⟨g1, hgg⟩ : ∃ y, u63_.heap.size = y := ⟨_, rfl⟩
      obtain ⟨u64_, huu⟩ : ∃ y, u63_.alloc (.cells MM 4) = y := ⟨_, rfl⟩
      rw [hgg, huu] at hd ⊢
      have D64_ := Lib.hid hd
      clear hd hgg huu
      refine tkI (i := 6) (v := .agg #[.slice (some ⟨g1, 0, none⟩) (K.n + 1) (K.n + 1), .slice (some ⟨g2, 0, none⟩) (K.n + 1) (K.n + 1), .bool x.emp]) rfl ⟨by rfl, ?_⟩ (HBX.out _ D64_.out.bel) ?_
      ·intro ww hSw
       obtain ⟨hs0, hs1, hs2⟩ := hSw
       go_simp
      try simp only [Act.put, z1, z2, z3, z4, z5, z6]
      refine wpAnyH_ready (rs := [8]) (by kernel_rfl) (by simp) ?_
      refine AllReadyH.cons rfl (fun k_ hK => ?_) AllReadyH.nil
      obtain ⟨⟨z0, z1, z2⟩, f0, f1, f2⟩ := three_cells (D64_.out.z6 _ rfl).2
      go_simp
      refine hK.out _ _ (HBX.out _ (set3'_below D64_.out.bel (D64_.out.z6 _ rfl).1 (.slice (some ⟨g1, 0, none⟩) (K.n + 1) (K.n + 1)) (.slice (some ⟨g2, 0, none⟩) (K.n + 1) (K.n + 1)) (.bool x.emp))) (fun _ => ?_)
      clear hK z0 z1 z2 f0 f1 f2
      try simp only [Act.put, z1, z2, z3, z4, z5, z6]
      refine ⟨by kernel_rfl, ?_⟩
      refine NoPanic.normal ?_
      exact ⟨rfl, g1, g2, g6, rfl, D64_.out.fin HB.out.1 HB.out.2.1 HB.out.2.2.1 HB.out.2.2.2 H0.out⟩
 rintro e a' W2 ⟨rfl, g1, g2, g6, ha, hD⟩
 dsimp only at ha
 subst ha
 have HD := Lib.hid hD
 clear hD HBX HEMP HMK HMM
 have ek : (x.kind == 1) = false := by simp [H1.out]
 have HB2 := Lib.hid (Nat.le_trans HG.out.2.2.2.2.1 HD.out.b.size)
 have HW := Lib.hid HG.out.2.2.2.2.1
 obtain ⟨i79, hi79, hz79, hs79, hb79⟩ := info_parts parts79
 obtain ⟨⟨c0, c1, c2⟩, -⟩ := three_cells HD.out.bx
 go_upto_region 8 with (fail)
 clear c0 c1 c2
 try simp only [ek]
 clear ek
 go_upto_region 10 with (fail)
 have H6 := Lib.hid HD.out.l6
 have HG6 := Lib.hid (show g6 < W2.heap.size from (Array.getElem?_eq_some_iff.1 HD.out.p6).1)
 have HPN := Lib.hid (show x.pn = pnL x.kids by rw [X.pn_eq, if_neg H1.out])
 have HK1 := Lib.hid (show x.sz ≤ 24 from hs)
 have hnk24 : nk ≤ 24 := by have := len_szL x.kids; have := x.sz_eq; have := HNK.out; omega
 have HNK24 := Lib.hid hnk24
 clear hnk24
 go_loopw [7, 8] (fun u7 u8 wr => ∃ (k : Nat) (vl' : Value) (l : List (Nat × Nat × Bool)), k ≤ nk ∧ u8 = .int .i64 k ∧ l.length = k ∧ wr.ownsRow W2.heap.size 79 3 u7 k (flK K.n l) ∧ D3 B w wr K x nk c A vl' (labs ++ psL (x.kids.take k)) (fun i j => P i j ∨ ∃ t, t < k ∧ KO x.kids (labs.length + 1) t (i + 1) (j + 1)) g1 g2 g6 (fun _ => False) (fun _ => False) ∧ KG w.heap.size wr K.n x.kids (labs.length + 1) l ∧ W2.heap.size ≤ wr.heap.size) (fun _ u8 _ => nk - (intOf u8).toNat)
 case atStart =>
  refine ⟨0, vl, [], Nat.zero_le _, rfl, rfl, World.ownsRow_nil _ _ _ _, ?_, ⟨fun t ht => absurd ht (by simp), fun t ht => absurd ht (by simp), fun t ht => absurd ht (by simp)⟩, Nat.le_refl _⟩
  have h3 := (HD.out.d3 HW.out).ext (P' := fun i j => P i j ∨ ∃ t, t < 0 ∧ KO x.kids (labs.length + 1) t (i + 1) (j + 1)) (fun i j => by simp) (fun j => Iff.rfl) (fun j => Iff.rfl)
  rw [List.take_zero, psL_nil, List.append_nil]
  exact h3
 case round =>
  obtain ⟨k, vl1, l, hk, rfl, hlk, hrow, hd, hkg, hwz⟩ := hrel
  have HR := Lib.hid (And.intro hlk (And.intro hrow (And.intro hd (And.intro hkg hwz))))
  clear hlk hrow hd hkg hwz
  obtain ⟨⟨c0, c1, c2⟩, -⟩ := three_cells HR.out.2.2.1.bx
  clear c0 c1
  by_cases hkn : k < nk
  ·have hk24 : k ≤ 24 := by have := HNK24.out; omega
   have e1 : k < x.kids.length := by rw [HNK.out]; exact hkn
   obtain ⟨ad, kv, f1, _, q0, q1, q2, q3⟩ := XR.at3 (HXR.out.bel (HR.out.2.2.1.kr.below.mono HG.out.2.2.2.1)) e1
   subst f1
   obtain ⟨y, hy⟩ : ∃ y, x.kids[k] = y := ⟨_, rfl⟩
   have hym : y ∈ x.kids := by rw [← hy]; exact List.getElem_mem e1
   have hyk : x.kids[k]? = some y := by rw [List.getElem?_eq_getElem e1, hy]
   have htk := pnL_take e1
   have hpt := psL_take e1
   rw [hy] at q0 q1 q3 htk hpt
   have hle := pnL_take_le x.kids (k + 1)
   have hlab : (labs ++ psL (x.kids.take k)).length = labs.length + pnL (x.kids.take k) := by rw [List.length_append, psL_len]
   have HC := Lib.hid (IH.out y hym M B wr K vl1 (.agg #[.int .i64 y.kind, .string y.lab, kv]) (labs ++ psL (x.kids.take k)) _ ⟨kv, rfl, q3⟩ HG.out.2.2.2.1 HR.out.2.2.1.rn hn (HG.out.1.kids y hym) (by have := szL_mem hym; have := x.sz_eq; have := HK1.out; omega) (lit_kids HG.out.2.2.1 y hym) (by rw [hlab]; have := HG.out.2.2.2.2.2; have := HPN.out; omega))
   have HY := Lib.hid (And.intro hyk (And.intro hpt hlab))
   obtain ⟨A7, c7, h7⟩ := row_form HR.out.2.1
   subst h7
   obtain ⟨yk, hyk'⟩ : ∃ z, y.kind = z := ⟨_, rfl⟩
   obtain ⟨yl, hyl'⟩ : ∃ z, y.lab = z := ⟨_, rfl⟩
   rw [hyk', hyl'] at HC
   rw [hyk'] at q0
   rw [hyl'] at q1
   clear hym hyk hpt hlab htk hle q3 e1 hy hyk' hyl'
   go_upto_region 13 with (go_at_call 49; go_loud (refine HC.out.mono ?_; rintro e w2 ⟨vl2, ga, gb, rfl, hrn, hfa, hfb, hkr⟩; have HO2 := Lib.hid (And.intro hrn (And.intro hfa (And.intro hfb hkr))); clear hrn hfa hfb hkr))
   have hrow2 := own_kr HR.out.2.1 HO2.out.2.2.2
   have hz2 : W2.heap.size ≤ w2.heap.size := Nat.le_trans HR.out.2.2.2.2 HO2.out.2.2.2.size
   clear q0 q1 q2 c2
   obtain ⟨w3, hw3⟩ : ∃ z, w2.alloc (.cells #[.slice (some ⟨ga, 0, none⟩) (K.n + 1) (K.n + 1), .slice (some ⟨gb, 0, none⟩) (K.n + 1) (K.n + 1), .bool y.emp] 79) = z := ⟨_, rfl⟩
   obtain ⟨g9, hg9⟩ : ∃ z, w2.heap.size = z := ⟨_, rfl⟩
   have b9 := at_push w2 (.cells #[.slice (some ⟨ga, 0, none⟩) (K.n + 1) (K.n + 1), .slice (some ⟨gb, 0, none⟩) (K.n + 1) (K.n + 1), .bool y.emp] 79)
   have hb3 := (Below.refl _ w2).alloc (Nat.le_refl _) (.cells #[.slice (some ⟨ga, 0, none⟩) (K.n + 1) (K.n + 1), .slice (some ⟨gb, 0, none⟩) (K.n + 1) (K.n + 1), .bool y.emp] 79)
   have HZ3 := Lib.hid (show w3.heap.size = w2.heap.size + 1 by rw [← hw3]; simp)
   rw [hw3] at b9 hb3 ⊢
   rw [hg9] at b9 ⊢
   obtain ⟨⟨b0, b1, b2⟩, -⟩ := three_cells b9
   clear b9
   have hrow3 : w3.ownsRow W2.heap.size 79 3 (.slice A7 k c7) k (flK K.n l) := by rw [← hw3]; exact hrow2.alloc _
   have HB3 := Lib.hid hb3
   have HZ2 := Lib.hid hz2
   have HR2 := Lib.hid (And.intro hrow2 hrow3)
   clear hb3 hz2 hrow2 hrow3 hw3 hg9
   go_wp2_with (at_builtin; go_loud (refine wpList_append_own_at _ rfl _ _ 100 rfl W2.heap.size 79 i79 (.agg #[.slice none 0 0, .slice none 0 0, .bool false]) 3 56 Tryd.underlying100 hi79 hz79 hs79 hb79 rfl (by decide) _ _ _ rfl (HR2.out.2.alloc _) ⟨w3.heap.size, 0, none⟩ 1 1 [.slice (some ⟨ga, 0, none⟩) (K.n + 1) (K.n + 1), .slice (some ⟨gb, 0, none⟩) (K.n + 1) (K.n + 1), .bool y.emp] rfl rfl (lit_cells w3 _ (by simp) _ 79) (by simp [Value.oneCell']) (by have := HNK24.out; unfold maxLen; omega) (by have := HNK24.out; omega) (by have := HZ3.out; have := HZ2.out; simp; omega) ?_; intro v' w4 hown' hgrow' hnil hloc))
   go_roundw
   case rel =>
    have hb4 := HB3.out.alloc (B := w2.heap.size) HB3.out.size (.cells #[.slice (some ⟨ga, 0, none⟩) (K.n + 1) (K.n + 1), .slice (some ⟨gb, 0, none⟩) (K.n + 1) (K.n + 1), .bool y.emp] 79)
    have d2 := HR.out.2.2.1.kr_to H.out HO2.out.2.2.2 HO2.out.1
    have d4 := (d2.bel HW.out hb4).grown HW.out hgrow' (HR2.out.2.alloc _) H6.out HG6.out
    have hsz := hgrow'.size
    refine ⟨k + 1, vl2, l ++ [(ga, gb, y.emp)], by omega, by go_num, by rw [List.length_append, HR.out.1]; rfl, ?_, ?_, ?_, ?_⟩
    ·rw [flK_app]
     exact hown'
    ·have d5 := d4.ext (P' := fun i j => P i j ∨ ∃ t, t < k + 1 ∧ KO x.kids (labs.length + 1) t (i + 1) (j + 1)) (fun i j => by
      rw [HY.out.2.2, show labs.length + pnL (x.kids.take k) + 1 = labs.length + 1 + pnL (x.kids.take k) by omega]
      constructor
      ·rintro ((h | ⟨t, h1, h2⟩) | h)
       ·exact .inl h
       ·exact .inr ⟨t, by omega, h2⟩
       ·exact .inr ⟨k, by omega, y, HY.out.1, h⟩
      ·rintro (h | ⟨t, h1, h2⟩)
       ·exact .inl (.inl h)
       ·by_cases e : t = k
        ·subst e
         obtain ⟨z, hz, h3⟩ := h2
         rw [HY.out.1] at hz
         injection hz with hz
         rw [hz]
         exact .inr h3
        ·exact .inl (.inr ⟨t, by omega, h2⟩)) (fun j => Iff.rfl) (fun j => Iff.rfl)
     rw [List.append_assoc, ← HY.out.2.1] at d5
     exact d5
    ·have hmap : ∀ g Q, FRat w.heap.size wr g K.n Q → FRat w.heap.size w4 g K.n Q := fun g Q hf => ((hf.kr HO2.out.2.2.2 (hf.ne H.out)).bel hb4).grown hgrow' (HR2.out.2.alloc _)
     have hzw := HR.out.2.2.1.kr.size
     refine (HR.out.2.2.2.1.map hmap).more (x := y) (by rw [HR.out.1]; exact HY.out.1) ?_ ?_
     ·exact (((HO2.out.2.1.mono hzw).bel hb4).grown hgrow' (HR2.out.2.alloc _)).ext (fun j _ => by rw [HR.out.1, HY.out.2.2, show labs.length + pnL (x.kids.take k) + 1 = labs.length + 1 + pnL (x.kids.take k) by omega])
     ·exact (((HO2.out.2.2.1.mono hzw).bel hb4).grown hgrow' (HR2.out.2.alloc _)).ext (fun j _ => by rw [HR.out.1, HY.out.2.2, show labs.length + pnL (x.kids.take k) + 1 = labs.length + 1 + pnL (x.kids.take k) by omega])
    ·have h3 := HZ3.out
     have h2 := HZ2.out
     rw [World.size_alloc] at hsz
     omega
   case measure => simp [intOf]; omega
  ·obtain rfl : nk = k := by omega
   have hps : x.kids.take nk = x.kids := List.take_of_length_le (by rw [HNK.out]; exact Nat.le_refl _)
   rw [hps] at HR
   have hpos := kids_pos HG.out.1 H1.out
   rw [HNK.out] at hpos
   rcases HR.out.2.1.2 with ⟨hv, hn0⟩ | ⟨gk, cap, cur, hv, hbk, hgk, hle, hmx, hsz, htake⟩
   ·exact absurd hn0 (by omega)
   subst hv
   have HC := Lib.hid (cur_take htake)
   have HLK := Lib.hid (Nat.lt_of_lt_of_le HG6.out hbk)
   have HLL := Lib.hid HR.out.1
   have HL0 := Lib.hid (show L2 B w wr K x nk c A vl1 (labs ++ psL x.kids) (fun p q => P p q ∨ Lk x (labs.length + 1) 0 (p + 1) (q + 1)) g1 g2 g6 (fun j => Qf x (labs.length + 1) 0 (j + 1)) (fun j => Ql x (labs.length + 1) 0 (j + 1)) gk cur (labs.length + 1) l from
    ⟨HR.out.2.2.1.ext (fun i j => by rw [Lk_zero, HNK.out]) (fun j => ⟨fun h => h.elim, fun h => absurd h (Qf_zero _ _ _)⟩) (fun j => ⟨fun h => h.elim, fun h => absurd h (Ql_zero _ _ _)⟩), hgk, HR.out.2.2.2.1⟩)
   clear hps hpos hbk hgk hle hmx hsz htake
   go_upto_region 15 with (fail)
   clear HR c2
   go_loopw [10] (fun u10 wq => ∃ (i G1 G2 : Nat) (vl2 : Value), i ≤ nk ∧ u10 = .int .i64 i ∧ L2 B w wq K x nk c A vl2 (labs ++ psL x.kids) (fun p q => P p q ∨ Lk x (labs.length + 1) i (p + 1) (q + 1)) G1 G2 g6 (fun j => Qf x (labs.length + 1) i (j + 1)) (fun j => Ql x (labs.length + 1) i (j + 1)) gk cur (labs.length + 1) l) (fun u10 _ => nk - (intOf u10).toNat)
   case atStart => exact ⟨0, g1, g2, vl1, Nat.zero_le _, rfl, HL0.out⟩
   case round =>
    clear HL0
    obtain ⟨i, G1, G2, vl2, hi, rfl, hL⟩ := hrel
    obtain ⟨W5, hW5⟩ : ∃ z, wr = z := ⟨_, rfl⟩
    rw [hW5] at hL ⊢
    have HL := Lib.hid hL
    clear hL hW5
    have HKID := Lib.hid (show ∀ t, t < nk → ∃ y, x.kids[t]? = some y from fun t ht => ⟨_, List.getElem?_eq_getElem (by rw [HNK.out]; exact ht)⟩)
    by_cases hin : i < nk
    ·have hi24 : i ≤ 24 := by have := HNK24.out; omega
     go_upto_region 19 with (fail)
     go_loopw [11, 13] (fun u11 u13 wq => ∃ k : Nat, k ≤ i ∧ u13 = .int .i64 k ∧ u11 = .bool (pB (x.kind = 2 → Em x.kids 0 k)) ∧ W5 = wq) (fun _ u13 _ => i - (intOf u13).toNat)
     case atStart => exact ⟨0, Nat.zero_le _, rfl, by rw [pB_true (fun _ => Em_nil _ _)], rfl⟩
     case round =>
      obtain ⟨k, hki, rfl, rfl, rfl⟩ := hrel
      by_cases hlt : k < i
      ·obtain ⟨y, hy⟩ := HKID.out k (by omega)
       have c9 := (HL.out.kid HC.out (t := k) (by rw [HLL.out]; omega)).2.2
       rw [HL.out.g.e k (by rw [HLL.out]; omega) y hy] at c9
       obtain ⟨⟨c0, -, -⟩, -⟩ := three_cells HL.out.d.bx
       have HNX := Lib.hid (em_next hy (Nat.zero_le k) (x.kind = 2))
       obtain ⟨b, hb⟩ : ∃ b, pB (x.kind = 2 → Em x.kids 0 k) = b := ⟨_, rfl⟩
       have HBB := Lib.hid hb
       rw [hb]
       obtain ⟨z, hz⟩ : ∃ z, y.emp = z := ⟨_, rfl⟩
       rw [hz] at c9
       have HZ := Lib.hid hz
       have hkl : k < nk := by omega
       have hk24 : k ≤ 24 := by have := HNK24.out; omega
       clear hb hy hz
       cases b with
       | false =>
        go_wp2_with fail
        go_roundw
        case rel => exact ⟨k + 1, by omega, by go_num, by rw [pB_false (fun h => pB_ff HBB.out (HNX.out.1 h).1)], trivial⟩
        case measure => simp [intOf]; omega
       | true =>
        by_cases h2 : x.kind = 2
        ·rw [h2] at c0
         have H2 := Lib.hid h2
         clear h2
         go_wp2_with fail
         go_roundw
         case rel =>
          refine ⟨k + 1, by omega, by go_num, ?_, trivial⟩
          have e : pB (x.kind = 2 → Em x.kids 0 (k + 1)) = z := bool_ext (by rw [pB_iff, HNX.out, ← HZ.out]; exact ⟨fun h => h.2 H2.out, fun h => ⟨pB_iff.1 HBB.out, fun _ => h⟩⟩)
          rw [e]
         case measure => simp [intOf]; omega
        ·have ek2 : (x.kind == 2) = false := by simp [h2]
         have H2 := Lib.hid h2
         clear h2
         go_wp2_with fail
         go_roundw
         case rel => exact ⟨k + 1, by omega, by go_num, by rw [pB_true (fun h => absurd h H2.out)], trivial⟩
         case measure => simp [intOf]; omega
      ·obtain rfl : i = k := by omega
       obtain ⟨ba, hba⟩ : ∃ b, pB (x.kind = 2 → Em x.kids 0 i) = b := ⟨_, rfl⟩
       rw [hba]
       have HBA := Lib.hid hba
       clear hba
       go_upto_region 23 with (fail)
       go_loopw [12, 14] (fun u12 u14 wq => ∃ k : Nat, i + 1 ≤ k ∧ k ≤ nk ∧ u14 = .int .i64 k ∧ u12 = .bool (pB (x.kind = 2 → Em x.kids (i + 1) k)) ∧ W5 = wq) (fun _ u14 _ => nk - (intOf u14).toNat)
       case atStart => exact ⟨i + 1, Nat.le_refl _, by omega, by go_num, by rw [pB_true (fun _ => Em_nil _ _)], rfl⟩
       case round =>
        obtain ⟨k, hik, hki, rfl, rfl, rfl⟩ := hrel
        by_cases hlt : k < nk
        ·obtain ⟨y, hy⟩ := HKID.out k (by omega)
         have c9 := (HL.out.kid HC.out (t := k) (by rw [HLL.out]; omega)).2.2
         rw [HL.out.g.e k (by rw [HLL.out]; omega) y hy] at c9
         obtain ⟨⟨c0, -, -⟩, -⟩ := three_cells HL.out.d.bx
         have HNX := Lib.hid (em_next hy hik (x.kind = 2))
         obtain ⟨b, hb⟩ : ∃ b, pB (x.kind = 2 → Em x.kids (i + 1) k) = b := ⟨_, rfl⟩
         have HBB := Lib.hid hb
         rw [hb]
         obtain ⟨z, hz⟩ : ∃ z, y.emp = z := ⟨_, rfl⟩
         rw [hz] at c9
         have HZ := Lib.hid hz
         have hkl : k < nk := by omega
         have hk24 : k ≤ 24 := by have := HNK24.out; omega
         clear hb hy hz
         cases b with
         | false =>
          go_wp2_with fail
          go_roundw
          case rel => exact ⟨k + 1, by omega, by omega, by go_num, by rw [pB_false (fun h => pB_ff HBB.out (HNX.out.1 h).1)], trivial⟩
          case measure => simp [intOf]; omega
         | true =>
          by_cases h2 : x.kind = 2
          ·rw [h2] at c0
           have H2 := Lib.hid h2
           clear h2
           go_wp2_with fail
           go_roundw
           case rel =>
            refine ⟨k + 1, by omega, by omega, by go_num, ?_, trivial⟩
            have e : pB (x.kind = 2 → Em x.kids (i + 1) (k + 1)) = z := bool_ext (by rw [pB_iff, HNX.out, ← HZ.out]; exact ⟨fun h => h.2 H2.out, fun h => ⟨pB_iff.1 HBB.out, fun _ => h⟩⟩)
            rw [e]
           case measure => simp [intOf]; omega
          ·have ek2 : (x.kind == 2) = false := by simp [h2]
           have H2 := Lib.hid h2
           clear h2
           go_wp2_with fail
           go_roundw
           case rel => exact ⟨k + 1, by omega, by omega, by go_num, by rw [pB_true (fun h => absurd h H2.out)], trivial⟩
           case measure => simp [intOf]; omega
        ·obtain rfl : nk = k := by omega
         obtain ⟨bb, hbb⟩ : ∃ b, pB (x.kind = 2 → Em x.kids (i + 1) nk) = b := ⟨_, rfl⟩
         rw [hbb]
         have HBL := Lib.hid hbb
         clear hbb
         go_upto_region 26 with (fail)
         have hil0 : i < l.length := by rw [HLL.out]; exact hin
         obtain ⟨gf, gg, ee, hq⟩ : ∃ a b c, l[i] = (a, b, c) := ⟨_, _, _, rfl⟩
         have HIL := Lib.hid (show l[i]? = some (gf, gg, ee) by rw [List.getElem?_eq_getElem hil0, hq])
         clear hil0 hq
         cases ba with
         | true =>
          go_upto_region 27 with (fail)
          obtain ⟨r0, hr0⟩ : ∃ z, W5.drew = z := ⟨_, rfl⟩
          have L0 := Lib.hid (show L2 B w r0 K x nk c A vl2 (labs ++ psL x.kids) (fun p q => P p q ∨ Lk x (labs.length + 1) i (p + 1) (q + 1)) G1 G2 g6 (fun j => Qf x (labs.length + 1) i (j + 1)) (fun j => Ql x (labs.length + 1) i (j + 1)) gk cur (labs.length + 1) l by rw [← hr0]; exact HL.out.bel HW.out (Below.refl _ _).drew)
          refine wp_region_noPanic ?_
          refine wp_region_held_drew (S := fun W => W.cell? ⟨gk, i * 3, none⟩ = some (.slice (some ⟨gf, 0, none⟩) (K.n + 1) (K.n + 1))) (by kernel_rfl) (by rw [hr0]; exact (L0.out.kid' HC.out HIL.out).1.1) (fun hHeld => ?_)
          clear hHeld
          rw [hr0]
          clear hr0
          refine tkI (i := 0) (v := .pointer (some ⟨g6, 0, none⟩)) rfl ⟨by rfl, ?_⟩ (L0.out.kid' HC.out HIL.out).1.1 ?_
          ·intro ww hSw
           try obtain ⟨hs0, hs1⟩ := hSw
           go_simp
          try simp only [Act.put, z1, z2, z3, z4, z5, z6]
          refine tkI (i := 2) (v := .slice (some ⟨gk, 0, none⟩) nk cap) rfl ⟨by rfl, ?_⟩ (L0.out.kid' HC.out HIL.out).1.1 ?_
          ·intro ww hSw
           try obtain ⟨hs0, hs1⟩ := hSw
           go_simp
          try simp only [Act.put, z1, z2, z3, z4, z5, z6]
          refine tkI (i := 3) (v := .int .i64 i) rfl ⟨by rfl, ?_⟩ (L0.out.kid' HC.out HIL.out).1.1 ?_
          ·intro ww hSw
           try obtain ⟨hs0, hs1⟩ := hSw
           go_simp
          try simp only [Act.put, z1, z2, z3, z4, z5, z6]
          refine tkI (i := 4) (v := .pointer (some ⟨gk, i * 3, none⟩)) rfl ⟨by rfl, ?_⟩ (L0.out.kid' HC.out HIL.out).1.1 ?_
          ·intro ww hSw
           try obtain ⟨hs0, hs1⟩ := hSw
           go_simp
           try (intro hge; omega)
          try simp only [Act.put, z1, z2, z3, z4, z5, z6]
          refine tkI (i := 5) (v := .pointer (some ⟨gk, i * 3, none⟩)) rfl ⟨by rfl, ?_⟩ (L0.out.kid' HC.out HIL.out).1.1 ?_
          ·intro ww hSw
           try obtain ⟨hs0, hs1⟩ := hSw
           go_simp
          try simp only [Act.put, z1, z2, z3, z4, z5, z6]
          refine tkI (i := 6) (v := .slice (some ⟨gf, 0, none⟩) (K.n + 1) (K.n + 1)) rfl ⟨by rfl, ?_⟩ (L0.out.kid' HC.out HIL.out).1.1 ?_
          ·intro ww hSw
           try obtain ⟨hs0, hs1⟩ := hSw
           go_simp
          try simp only [Act.put, z1, z2, z3, z4, z5, z6]
          refine wpAnyH_ready (rs := [1]) (by kernel_rfl) (by simp) ?_
          refine AllReadyH.cons rfl (fun k_ hK => ?_) (AllReadyH.nil)
          have q1 := (three_cells L0.out.d.p6).1.1
          go_simp
          clear q1
          refine hK.out _ _ (L0.out.kid' HC.out HIL.out).1.1 (fun _ => ?_)
          clear hK
          try simp only [Act.put, z1, z2, z3, z4, z5, z6]
          refine wpAnyH_ready (rs := [7]) (by kernel_rfl) (by simp) ?_
          refine AllReadyH.cons rfl (fun k_ hK => ?_) (AllReadyH.nil)
          go_simp
          refine (either58_any hn ⟨_, rfl, L0.out.d.f1⟩ ⟨_, rfl, (L0.out.kid' HC.out HIL.out).2.1⟩).mono ?_
          rintro e r1 ⟨v', rfl, ⟨g', rfl, hf⟩, hb⟩
          have L1 := Lib.hid (L0.out.bel HW.out hb)
          have HF := Lib.hid (hf.mono L0.out.d.kr.size)
          clear hf hb
          refine hK.out _ _ (L1.out.kid' HC.out HIL.out).1.1 (fun _ => ?_)
          clear hK
          try simp only [Act.put, z1, z2, z3, z4, z5, z6]
          refine tkI (i := 8) (v := .pointer (some ⟨g6, 0, none⟩)) rfl ⟨by rfl, ?_⟩ (L1.out.kid' HC.out HIL.out).1.1 ?_
          ·intro ww hSw
           try obtain ⟨hs0, hs1⟩ := hSw
           go_simp
          try simp only [Act.put, z1, z2, z3, z4, z5, z6]
          refine wpAnyH_ready (rs := [9]) (by kernel_rfl) (by simp) ?_
          refine AllReadyH.cons rfl (fun k_ hK => ?_) (AllReadyH.nil)
          obtain ⟨⟨q0, q1, q2⟩, f0, f1, f2⟩ := three_cells L1.out.d.p6
          go_simp
          clear q0 q1 q2 f0 f1 f2
          have L2_ := Lib.hid (L1.out.put1 HW.out H6.out HLK.out HF.out)
          refine hK.out _ _ (L2_.out.kid' HC.out HIL.out).1.1 (fun _ => ?_)
          clear hK
          try simp only [Act.put, z1, z2, z3, z4, z5, z6]
          refine ⟨by kernel_rfl, ?_⟩
          refine NoPanic.normal ?_
          obtain ⟨W6, hw6⟩ : ∃ z, r1.setCell ⟨g6, 0, none⟩ (.slice (some ⟨g', 0, none⟩) (K.n + 1) (K.n + 1)) = z := ⟨_, rfl⟩
          obtain ⟨G1', hg'⟩ : ∃ z, g' = z := ⟨_, rfl⟩
          have HL1 := Lib.hid (show L2 B w W6 K x nk c A vl2 (labs ++ psL x.kids) (fun p q => P p q ∨ Lk x (labs.length + 1) i (p + 1) (q + 1)) G1' G2 g6 (fun j => Qf x (labs.length + 1) (i + 1) (j + 1)) (fun j => Ql x (labs.length + 1) i (j + 1)) gk cur (labs.length + 1) l by rw [← hw6, ← hg']; exact L2_.out.ext (fun _ _ => Iff.rfl) (fun j => (Qf_yes x _ i (j + 1) (pB_iff.1 HBA.out)).symm) (fun j => Iff.rfl))
          rw [hw6]
          clear hw6 hg' L0 L1 L2_ HF
          go_upto_region 28 with (fail)
          cases bb with
          | true =>
           go_upto_region 29 with (fail)
           obtain ⟨r0, hr0⟩ : ∃ z, W6.drew = z := ⟨_, rfl⟩
           have L0 := Lib.hid (show L2 B w r0 K x nk c A vl2 (labs ++ psL x.kids) (fun p q => P p q ∨ Lk x (labs.length + 1) i (p + 1) (q + 1)) G1' G2 g6 (fun j => Qf x (labs.length + 1) (i + 1) (j + 1)) (fun j => Ql x (labs.length + 1) i (j + 1)) gk cur (labs.length + 1) l by rw [← hr0]; exact HL1.out.bel HW.out (Below.refl _ _).drew)
           refine wp_region_noPanic ?_
           refine wp_region_held_drew (S := fun W => W.cell? ⟨gk, i * 3 + 1, none⟩ = some (.slice (some ⟨gg, 0, none⟩) (K.n + 1) (K.n + 1))) (by kernel_rfl) (by rw [hr0]; exact (L0.out.kid' HC.out HIL.out).1.2.1) (fun hHeld => ?_)
           clear hHeld
           rw [hr0]
           clear hr0
           refine tkI (i := 0) (v := .pointer (some ⟨g6, 1, none⟩)) rfl ⟨by rfl, ?_⟩ (L0.out.kid' HC.out HIL.out).1.2.1 ?_
           ·intro ww hSw
            try obtain ⟨hs0, hs1⟩ := hSw
            go_simp
           try simp only [Act.put, z1, z2, z3, z4, z5, z6]
           refine tkI (i := 2) (v := .slice (some ⟨gk, 0, none⟩) nk cap) rfl ⟨by rfl, ?_⟩ (L0.out.kid' HC.out HIL.out).1.2.1 ?_
           ·intro ww hSw
            try obtain ⟨hs0, hs1⟩ := hSw
            go_simp
           try simp only [Act.put, z1, z2, z3, z4, z5, z6]
           refine tkI (i := 3) (v := .int .i64 i) rfl ⟨by rfl, ?_⟩ (L0.out.kid' HC.out HIL.out).1.2.1 ?_
           ·intro ww hSw
            try obtain ⟨hs0, hs1⟩ := hSw
            go_simp
           try simp only [Act.put, z1, z2, z3, z4, z5, z6]
           refine tkI (i := 4) (v := .pointer (some ⟨gk, i * 3, none⟩)) rfl ⟨by rfl, ?_⟩ (L0.out.kid' HC.out HIL.out).1.2.1 ?_
           ·intro ww hSw
            try obtain ⟨hs0, hs1⟩ := hSw
            go_simp
            try (intro hge; omega)
           try simp only [Act.put, z1, z2, z3, z4, z5, z6]
           refine tkI (i := 5) (v := .pointer (some ⟨gk, i * 3 + 1, none⟩)) rfl ⟨by rfl, ?_⟩ (L0.out.kid' HC.out HIL.out).1.2.1 ?_
           ·intro ww hSw
            try obtain ⟨hs0, hs1⟩ := hSw
            go_simp
           try simp only [Act.put, z1, z2, z3, z4, z5, z6]
           refine tkI (i := 6) (v := .slice (some ⟨gg, 0, none⟩) (K.n + 1) (K.n + 1)) rfl ⟨by rfl, ?_⟩ (L0.out.kid' HC.out HIL.out).1.2.1 ?_
           ·intro ww hSw
            try obtain ⟨hs0, hs1⟩ := hSw
            go_simp
           try simp only [Act.put, z1, z2, z3, z4, z5, z6]
           refine wpAnyH_ready (rs := [1]) (by kernel_rfl) (by simp) ?_
           refine AllReadyH.cons rfl (fun k_ hK => ?_) (AllReadyH.nil)
           have q1 := (three_cells L0.out.d.p6).1.2.1
           go_simp
           clear q1
           refine hK.out _ _ (L0.out.kid' HC.out HIL.out).1.2.1 (fun _ => ?_)
           clear hK
           try simp only [Act.put, z1, z2, z3, z4, z5, z6]
           refine wpAnyH_ready (rs := [7]) (by kernel_rfl) (by simp) ?_
           refine AllReadyH.cons rfl (fun k_ hK => ?_) (AllReadyH.nil)
           go_simp
           refine (either58_any hn ⟨_, rfl, L0.out.d.f2⟩ ⟨_, rfl, (L0.out.kid' HC.out HIL.out).2.2⟩).mono ?_
           rintro e r1 ⟨v', rfl, ⟨g', rfl, hf⟩, hb⟩
           have L1 := Lib.hid (L0.out.bel HW.out hb)
           have HF := Lib.hid (hf.mono L0.out.d.kr.size)
           clear hf hb
           refine hK.out _ _ (L1.out.kid' HC.out HIL.out).1.2.1 (fun _ => ?_)
           clear hK
           try simp only [Act.put, z1, z2, z3, z4, z5, z6]
           refine tkI (i := 8) (v := .pointer (some ⟨g6, 1, none⟩)) rfl ⟨by rfl, ?_⟩ (L1.out.kid' HC.out HIL.out).1.2.1 ?_
           ·intro ww hSw
            try obtain ⟨hs0, hs1⟩ := hSw
            go_simp
           try simp only [Act.put, z1, z2, z3, z4, z5, z6]
           refine wpAnyH_ready (rs := [9]) (by kernel_rfl) (by simp) ?_
           refine AllReadyH.cons rfl (fun k_ hK => ?_) (AllReadyH.nil)
           obtain ⟨⟨q0, q1, q2⟩, f0, f1, f2⟩ := three_cells L1.out.d.p6
           go_simp
           clear q0 q1 q2 f0 f1 f2
           have L2_ := Lib.hid (L1.out.put2 HW.out H6.out HLK.out HF.out)
           refine hK.out _ _ (L2_.out.kid' HC.out HIL.out).1.2.1 (fun _ => ?_)
           clear hK
           try simp only [Act.put, z1, z2, z3, z4, z5, z6]
           refine ⟨by kernel_rfl, ?_⟩
           refine NoPanic.normal ?_
           obtain ⟨W7, hw6⟩ : ∃ z, r1.setCell ⟨g6, 1, none⟩ (.slice (some ⟨g', 0, none⟩) (K.n + 1) (K.n + 1)) = z := ⟨_, rfl⟩
           obtain ⟨G2', hg'⟩ : ∃ z, g' = z := ⟨_, rfl⟩
           have HL2 := Lib.hid (show L2 B w W7 K x nk c A vl2 (labs ++ psL x.kids) (fun p q => P p q ∨ Lk x (labs.length + 1) i (p + 1) (q + 1)) G1' G2' g6 (fun j => Qf x (labs.length + 1) (i + 1) (j + 1)) (fun j => Ql x (labs.length + 1) (i + 1) (j + 1)) gk cur (labs.length + 1) l by rw [← hw6, ← hg']; exact L2_.out.ext (fun _ _ => Iff.rfl) (fun j => Iff.rfl) (fun j => (Ql_yes x _ i (j + 1) (by rw [HNK.out]; exact pB_iff.1 HBL.out)).symm))
           rw [hw6]
           clear hw6 hg' L0 L1 L2_ HF
           obtain ⟨⟨c0, -, -⟩, -⟩ := three_cells HL2.out.d.bx
           obtain ⟨e2, he2⟩ : ∃ e2, (x.kind == 2) = e2 := ⟨_, rfl⟩
           have HE2 := Lib.hid he2
           go_upto_region 32 with (fail)
           clear c0 he2
           go_loopw [15, 16] (fun u15 u16 wq => ∃ k : Nat, i + 1 ≤ k ∧ k ≤ nk ∧ u16 = .int .i64 k ∧ u15 = .bool (pB (x.kind = 2 ∧ Em x.kids (i + 1) k)) ∧ L2 B w wq K x nk c A vl2 (labs ++ psL x.kids) (fun p q => P p q ∨ Lk x (labs.length + 1) i (p + 1) (q + 1) ∨ Lm x (labs.length + 1) i k (p + 1) (q + 1)) G1' G2' g6 (fun j => Qf x (labs.length + 1) (i + 1) (j + 1)) (fun j => Ql x (labs.length + 1) (i + 1) (j + 1)) gk cur (labs.length + 1) l) (fun _ u16 _ => nk - (intOf u16).toNat)
           case atStart =>
            refine ⟨i + 1, Nat.le_refl _, by omega, by go_num, ?_, HL2.out.ext (fun p q => ⟨fun h => h.elim .inl (fun h => .inr (.inl h)), fun h => h.elim .inl (fun h => h.elim .inr (fun h => absurd h (Lm_zero _ _ _ _ _)))⟩) (fun _ => Iff.rfl) (fun _ => Iff.rfl)⟩
            rw [show pB (x.kind = 2 ∧ Em x.kids (i + 1) (i + 1)) = e2 from bool_ext (by rw [pB_iff, ← HE2.out, beq_iff_eq]; exact ⟨fun h => h.1, fun h => ⟨h, Em_nil _ _⟩⟩)]
           case round =>
            obtain ⟨k, hik, hki, rfl, rfl, hL⟩ := hrel
            obtain ⟨W8, hW8⟩ : ∃ z, wr = z := ⟨_, rfl⟩
            rw [hW8] at hL ⊢
            have HL3 := Lib.hid hL
            clear hL hW8
            obtain ⟨b, hb⟩ : ∃ b, pB (x.kind = 2 ∧ Em x.kids (i + 1) k) = b := ⟨_, rfl⟩
            rw [hb]
            have HBB := Lib.hid hb
            clear hb
            have hk24 : k ≤ 24 := by have := HNK24.out; omega
            by_cases hlt : k < nk
            ·cases b with
             | false =>
              go_wp2_with fail
              go_roundw
              case rel => exact ⟨i + 1, G1', G2', vl2, by omega, by go_num, HL3.out.ext (fun p q => by
               rw [← Lk_more x (labs.length + 1) i k (p + 1) (q + 1) (.inr (pB_ff HBB.out))]) (fun _ => Iff.rfl) (fun _ => Iff.rfl)⟩
              case measure => simp [intOf]; omega
             | true =>
              go_upto_region 34 with (fail)
              obtain ⟨y, hy⟩ := HKID.out k hlt
              have HY := Lib.hid hy
              clear hy
              have hkl := List.getElem?_eq_getElem (l := l) (i := k) (by rw [HLL.out]; exact hlt)
              obtain ⟨gf2, gg2, ee2, hq2⟩ : ∃ a b c, l[k]'(by rw [HLL.out]; exact hlt) = (a, b, c) := ⟨_, _, _, rfl⟩
              have he := HL3.out.g.e k (by rw [HLL.out]; exact hlt) y HY.out
              rw [hq2] at hkl he
              have HIK := Lib.hid (And.intro hkl he)
              clear hkl hq2 he
              obtain ⟨r0, hr0⟩ : ∃ z, W8.drew = z := ⟨_, rfl⟩
              have L0 := Lib.hid (show L2 B w r0 K x nk c A vl2 (labs ++ psL x.kids) (fun p q => P p q ∨ Lk x (labs.length + 1) i (p + 1) (q + 1) ∨ Lm x (labs.length + 1) i k (p + 1) (q + 1)) G1' G2' g6 (fun j => Qf x (labs.length + 1) (i + 1) (j + 1)) (fun j => Ql x (labs.length + 1) (i + 1) (j + 1)) gk cur (labs.length + 1) l by rw [← hr0]; exact HL3.out.bel HW.out (Below.refl _ _).drew)
              refine wp_region_noPanic ?_
              refine wp_region_held_drew (S := fun W => W.cell? ⟨gk, i * 3 + 1, none⟩ = some (.slice (some ⟨gg, 0, none⟩) (K.n + 1) (K.n + 1)) ∧ W.cell? ⟨gk, k * 3, none⟩ = some (.slice (some ⟨gf2, 0, none⟩) (K.n + 1) (K.n + 1))) (by kernel_rfl) (by rw [hr0]; exact ⟨(L0.out.kid' HC.out HIL.out).1.2.1, (L0.out.kid' HC.out HIK.out.1).1.1⟩) (fun hHeld => ?_)
              clear hHeld
              rw [hr0]
              clear hr0
              refine tkI (i := 0) (v := .pointer (some ⟨K.R, 0, none⟩)) rfl ⟨by rfl, ?_⟩ ⟨(L0.out.kid' HC.out HIL.out).1.2.1, (L0.out.kid' HC.out HIK.out.1).1.1⟩ ?_
              ·intro ww hSw
               try obtain ⟨hs0, hs1⟩ := hSw
               go_simp
              try simp only [Act.put, z1, z2, z3, z4, z5, z6]
              refine tkI (i := 1) (v := .slice (some ⟨gk, 0, none⟩) nk cap) rfl ⟨by rfl, ?_⟩ ⟨(L0.out.kid' HC.out HIL.out).1.2.1, (L0.out.kid' HC.out HIK.out.1).1.1⟩ ?_
              ·intro ww hSw
               try obtain ⟨hs0, hs1⟩ := hSw
               go_simp
              try simp only [Act.put, z1, z2, z3, z4, z5, z6]
              refine tkI (i := 2) (v := .int .i64 i) rfl ⟨by rfl, ?_⟩ ⟨(L0.out.kid' HC.out HIL.out).1.2.1, (L0.out.kid' HC.out HIK.out.1).1.1⟩ ?_
              ·intro ww hSw
               try obtain ⟨hs0, hs1⟩ := hSw
               go_simp
              try simp only [Act.put, z1, z2, z3, z4, z5, z6]
              refine tkI (i := 3) (v := .pointer (some ⟨gk, i * 3, none⟩)) rfl ⟨by rfl, ?_⟩ ⟨(L0.out.kid' HC.out HIL.out).1.2.1, (L0.out.kid' HC.out HIK.out.1).1.1⟩ ?_
              ·intro ww hSw
               try obtain ⟨hs0, hs1⟩ := hSw
               go_simp
               try (intro hge; omega)
              try simp only [Act.put, z1, z2, z3, z4, z5, z6]
              refine tkI (i := 4) (v := .pointer (some ⟨gk, i * 3 + 1, none⟩)) rfl ⟨by rfl, ?_⟩ ⟨(L0.out.kid' HC.out HIL.out).1.2.1, (L0.out.kid' HC.out HIK.out.1).1.1⟩ ?_
              ·intro ww hSw
               try obtain ⟨hs0, hs1⟩ := hSw
               go_simp
              try simp only [Act.put, z1, z2, z3, z4, z5, z6]
              refine tkI (i := 5) (v := .slice (some ⟨gg, 0, none⟩) (K.n + 1) (K.n + 1)) rfl ⟨by rfl, ?_⟩ ⟨(L0.out.kid' HC.out HIL.out).1.2.1, (L0.out.kid' HC.out HIK.out.1).1.1⟩ ?_
              ·intro ww hSw
               try obtain ⟨hs0, hs1⟩ := hSw
               go_simp
              try simp only [Act.put, z1, z2, z3, z4, z5, z6]
              refine tkI (i := 6) (v := .slice (some ⟨gk, 0, none⟩) nk cap) rfl ⟨by rfl, ?_⟩ ⟨(L0.out.kid' HC.out HIL.out).1.2.1, (L0.out.kid' HC.out HIK.out.1).1.1⟩ ?_
              ·intro ww hSw
               try obtain ⟨hs0, hs1⟩ := hSw
               go_simp
              try simp only [Act.put, z1, z2, z3, z4, z5, z6]
              refine tkI (i := 7) (v := .int .i64 k) rfl ⟨by rfl, ?_⟩ ⟨(L0.out.kid' HC.out HIL.out).1.2.1, (L0.out.kid' HC.out HIK.out.1).1.1⟩ ?_
              ·intro ww hSw
               try obtain ⟨hs0, hs1⟩ := hSw
               go_simp
              try simp only [Act.put, z1, z2, z3, z4, z5, z6]
              refine tkI (i := 8) (v := .pointer (some ⟨gk, k * 3, none⟩)) rfl ⟨by rfl, ?_⟩ ⟨(L0.out.kid' HC.out HIL.out).1.2.1, (L0.out.kid' HC.out HIK.out.1).1.1⟩ ?_
              ·intro ww hSw
               try obtain ⟨hs0, hs1⟩ := hSw
               go_simp
               try (intro hge; omega)
              try simp only [Act.put, z1, z2, z3, z4, z5, z6]
              refine tkI (i := 9) (v := .pointer (some ⟨gk, k * 3, none⟩)) rfl ⟨by rfl, ?_⟩ ⟨(L0.out.kid' HC.out HIL.out).1.2.1, (L0.out.kid' HC.out HIK.out.1).1.1⟩ ?_
              ·intro ww hSw
               try obtain ⟨hs0, hs1⟩ := hSw
               go_simp
              try simp only [Act.put, z1, z2, z3, z4, z5, z6]
              refine tkI (i := 10) (v := .slice (some ⟨gf2, 0, none⟩) (K.n + 1) (K.n + 1)) rfl ⟨by rfl, ?_⟩ ⟨(L0.out.kid' HC.out HIL.out).1.2.1, (L0.out.kid' HC.out HIK.out.1).1.1⟩ ?_
              ·intro ww hSw
               try obtain ⟨hs0, hs1⟩ := hSw
               go_simp
              try simp only [Act.put, z1, z2, z3, z4, z5, z6]
              refine wpAnyH_ready (rs := [11]) (by kernel_rfl) (by simp) ?_
              refine AllReadyH.cons rfl (fun k_ hK => ?_) (AllReadyH.nil)
              go_simp
              refine (link71_any (v1 := .bool true) (v2 := .bool true) hn L0.out.d.rn (L0.out.kid' HC.out HIL.out).2.2 (L0.out.kid' HC.out HIK.out.1).2.1 ((L0.out.kid' HC.out HIL.out).2.2.ne H.out) ((L0.out.kid' HC.out HIK.out.1).2.1.ne H.out)).mono ?_
              rintro e r1 ⟨rfl, hrn, hkr⟩
              have L1 := Lib.hid (L0.out.kr_to H.out hkr hrn)
              clear hrn hkr
              refine hK.out _ _ ⟨(L1.out.kid' HC.out HIL.out).1.2.1, (L1.out.kid' HC.out HIK.out.1).1.1⟩ (fun _ => ?_)
              clear hK
              try simp only [Act.put, z1, z2, z3, z4, z5, z6]
              refine ⟨by kernel_rfl, ?_⟩
              refine NoPanic.normal ?_
              have c9 := (L1.out.kid' HC.out HIK.out.1).1.2.2
              obtain ⟨z, hz⟩ : ∃ z, ee2 = z := ⟨_, rfl⟩
              rw [hz] at c9
              go_wp2_with fail
              go_roundw
              case rel =>
               refine ⟨k + 1, by omega, by omega, by go_num, ?_, L1.out.ext (fun p q => ?_) (fun _ => Iff.rfl) (fun _ => Iff.rfl)⟩
               ·rw [show pB (x.kind = 2 ∧ Em x.kids (i + 1) (k + 1)) = z from bool_ext (by rw [pB_iff, btw_next HY.out hik _ (pB_iff.1 HBB.out), ← hz]; exact (by rw [show ee2 = y.emp from HIK.out.2]))]
               ·rw [Lm_more x (labs.length + 1) i k (p + 1) (q + 1) hik]
                have hb := pB_iff.1 HBB.out
                constructor
                ·rintro ((h | h | h) | h)
                 ·exact .inl h
                 ·exact .inr (.inl h)
                 ·exact .inr (.inr (.inl h))
                 ·exact .inr (.inr (.inr ⟨hb, h⟩))
                ·rintro (h | h | h | ⟨_, h⟩)
                 ·exact .inl (.inl h)
                 ·exact .inl (.inr (.inl h))
                 ·exact .inl (.inr (.inr h))
                 ·exact .inr h
              case measure => simp [intOf]; omega
            ·obtain rfl : nk = k := by omega
             cases b with
             | false =>
              go_wp2_with fail
              go_roundw
              case rel => exact ⟨i + 1, G1', G2', vl2, by omega, by go_num, HL3.out.ext (fun p q => by
               rw [← Lk_more x (labs.length + 1) i nk (p + 1) (q + 1) (.inl HNK.out.symm)]) (fun _ => Iff.rfl) (fun _ => Iff.rfl)⟩
              case measure => simp [intOf]; omega
             | true =>
              go_wp2_with fail
              go_roundw
              case rel => exact ⟨i + 1, G1', G2', vl2, by omega, by go_num, HL3.out.ext (fun p q => by
               rw [← Lk_more x (labs.length + 1) i nk (p + 1) (q + 1) (.inl HNK.out.symm)]) (fun _ => Iff.rfl) (fun _ => Iff.rfl)⟩
              case measure => simp [intOf]; omega
          | false =>
           go_upto_region 30 with (fail)
           obtain ⟨W7, hw6⟩ : ∃ z, W6 = z := ⟨_, rfl⟩
           obtain ⟨G2', hg'⟩ : ∃ z, G2 = z := ⟨_, rfl⟩
           have HL2 := Lib.hid (show L2 B w W7 K x nk c A vl2 (labs ++ psL x.kids) (fun p q => P p q ∨ Lk x (labs.length + 1) i (p + 1) (q + 1)) G1' G2' g6 (fun j => Qf x (labs.length + 1) (i + 1) (j + 1)) (fun j => Ql x (labs.length + 1) (i + 1) (j + 1)) gk cur (labs.length + 1) l by rw [← hw6, ← hg']; exact HL1.out.ext (fun _ _ => Iff.rfl) (fun j => Iff.rfl) (fun j => (Ql_no x _ i (j + 1) (by rw [HNK.out]; exact pB_ff HBL.out)).symm))
           rw [hw6]
           clear hw6 hg'
           obtain ⟨⟨c0, -, -⟩, -⟩ := three_cells HL2.out.d.bx
           obtain ⟨e2, he2⟩ : ∃ e2, (x.kind == 2) = e2 := ⟨_, rfl⟩
           have HE2 := Lib.hid he2
           go_upto_region 32 with (fail)
           clear c0 he2
           go_loopw [15, 16] (fun u15 u16 wq => ∃ k : Nat, i + 1 ≤ k ∧ k ≤ nk ∧ u16 = .int .i64 k ∧ u15 = .bool (pB (x.kind = 2 ∧ Em x.kids (i + 1) k)) ∧ L2 B w wq K x nk c A vl2 (labs ++ psL x.kids) (fun p q => P p q ∨ Lk x (labs.length + 1) i (p + 1) (q + 1) ∨ Lm x (labs.length + 1) i k (p + 1) (q + 1)) G1' G2' g6 (fun j => Qf x (labs.length + 1) (i + 1) (j + 1)) (fun j => Ql x (labs.length + 1) (i + 1) (j + 1)) gk cur (labs.length + 1) l) (fun _ u16 _ => nk - (intOf u16).toNat)
           case atStart =>
            refine ⟨i + 1, Nat.le_refl _, by omega, by go_num, ?_, HL2.out.ext (fun p q => ⟨fun h => h.elim .inl (fun h => .inr (.inl h)), fun h => h.elim .inl (fun h => h.elim .inr (fun h => absurd h (Lm_zero _ _ _ _ _)))⟩) (fun _ => Iff.rfl) (fun _ => Iff.rfl)⟩
            rw [show pB (x.kind = 2 ∧ Em x.kids (i + 1) (i + 1)) = e2 from bool_ext (by rw [pB_iff, ← HE2.out, beq_iff_eq]; exact ⟨fun h => h.1, fun h => ⟨h, Em_nil _ _⟩⟩)]
           case round =>
            obtain ⟨k, hik, hki, rfl, rfl, hL⟩ := hrel
            obtain ⟨W8, hW8⟩ : ∃ z, wr = z := ⟨_, rfl⟩
            rw [hW8] at hL ⊢
            have HL3 := Lib.hid hL
            clear hL hW8
            obtain ⟨b, hb⟩ : ∃ b, pB (x.kind = 2 ∧ Em x.kids (i + 1) k) = b := ⟨_, rfl⟩
            rw [hb]
            have HBB := Lib.hid hb
            clear hb
            have hk24 : k ≤ 24 := by have := HNK24.out; omega
            by_cases hlt : k < nk
            ·cases b with
             | false =>
              go_wp2_with fail
              go_roundw
              case rel => exact ⟨i + 1, G1', G2', vl2, by omega, by go_num, HL3.out.ext (fun p q => by
               rw [← Lk_more x (labs.length + 1) i k (p + 1) (q + 1) (.inr (pB_ff HBB.out))]) (fun _ => Iff.rfl) (fun _ => Iff.rfl)⟩
              case measure => simp [intOf]; omega
             | true =>
              go_upto_region 34 with (fail)
              obtain ⟨y, hy⟩ := HKID.out k hlt
              have HY := Lib.hid hy
              clear hy
              have hkl := List.getElem?_eq_getElem (l := l) (i := k) (by rw [HLL.out]; exact hlt)
              obtain ⟨gf2, gg2, ee2, hq2⟩ : ∃ a b c, l[k]'(by rw [HLL.out]; exact hlt) = (a, b, c) := ⟨_, _, _, rfl⟩
              have he := HL3.out.g.e k (by rw [HLL.out]; exact hlt) y HY.out
              rw [hq2] at hkl he
              have HIK := Lib.hid (And.intro hkl he)
              clear hkl hq2 he
              obtain ⟨r0, hr0⟩ : ∃ z, W8.drew = z := ⟨_, rfl⟩
              have L0 := Lib.hid (show L2 B w r0 K x nk c A vl2 (labs ++ psL x.kids) (fun p q => P p q ∨ Lk x (labs.length + 1) i (p + 1) (q + 1) ∨ Lm x (labs.length + 1) i k (p + 1) (q + 1)) G1' G2' g6 (fun j => Qf x (labs.length + 1) (i + 1) (j + 1)) (fun j => Ql x (labs.length + 1) (i + 1) (j + 1)) gk cur (labs.length + 1) l by rw [← hr0]; exact HL3.out.bel HW.out (Below.refl _ _).drew)
              refine wp_region_noPanic ?_
              refine wp_region_held_drew (S := fun W => W.cell? ⟨gk, i * 3 + 1, none⟩ = some (.slice (some ⟨gg, 0, none⟩) (K.n + 1) (K.n + 1)) ∧ W.cell? ⟨gk, k * 3, none⟩ = some (.slice (some ⟨gf2, 0, none⟩) (K.n + 1) (K.n + 1))) (by kernel_rfl) (by rw [hr0]; exact ⟨(L0.out.kid' HC.out HIL.out).1.2.1, (L0.out.kid' HC.out HIK.out.1).1.1⟩) (fun hHeld => ?_)
              clear hHeld
              rw [hr0]
              clear hr0
              refine tkI (i := 0) (v := .pointer (some ⟨K.R, 0, none⟩)) rfl ⟨by rfl, ?_⟩ ⟨(L0.out.kid' HC.out HIL.out).1.2.1, (L0.out.kid' HC.out HIK.out.1).1.1⟩ ?_
              ·intro ww hSw
               try obtain ⟨hs0, hs1⟩ := hSw
               go_simp
              try simp only [Act.put, z1, z2, z3, z4, z5, z6]
              refine tkI (i := 1) (v := .slice (some ⟨gk, 0, none⟩) nk cap) rfl ⟨by rfl, ?_⟩ ⟨(L0.out.kid' HC.out HIL.out).1.2.1, (L0.out.kid' HC.out HIK.out.1).1.1⟩ ?_
              ·intro ww hSw
               try obtain ⟨hs0, hs1⟩ := hSw
               go_simp
              try simp only [Act.put, z1, z2, z3, z4, z5, z6]
              refine tkI (i := 2) (v := .int .i64 i) rfl ⟨by rfl, ?_⟩ ⟨(L0.out.kid' HC.out HIL.out).1.2.1, (L0.out.kid' HC.out HIK.out.1).1.1⟩ ?_
              ·intro ww hSw
               try obtain ⟨hs0, hs1⟩ := hSw
               go_simp
              try simp only [Act.put, z1, z2, z3, z4, z5, z6]
              refine tkI (i := 3) (v := .pointer (some ⟨gk, i * 3, none⟩)) rfl ⟨by rfl, ?_⟩ ⟨(L0.out.kid' HC.out HIL.out).1.2.1, (L0.out.kid' HC.out HIK.out.1).1.1⟩ ?_
              ·intro ww hSw
               try obtain ⟨hs0, hs1⟩ := hSw
               go_simp
               try (intro hge; omega)
              try simp only [Act.put, z1, z2, z3, z4, z5, z6]
              refine tkI (i := 4) (v := .pointer (some ⟨gk, i * 3 + 1, none⟩)) rfl ⟨by rfl, ?_⟩ ⟨(L0.out.kid' HC.out HIL.out).1.2.1, (L0.out.kid' HC.out HIK.out.1).1.1⟩ ?_
              ·intro ww hSw
               try obtain ⟨hs0, hs1⟩ := hSw
               go_simp
              try simp only [Act.put, z1, z2, z3, z4, z5, z6]
              refine tkI (i := 5) (v := .slice (some ⟨gg, 0, none⟩) (K.n + 1) (K.n + 1)) rfl ⟨by rfl, ?_⟩ ⟨(L0.out.kid' HC.out HIL.out).1.2.1, (L0.out.kid' HC.out HIK.out.1).1.1⟩ ?_
              ·intro ww hSw
               try obtain ⟨hs0, hs1⟩ := hSw
               go_simp
              try simp only [Act.put, z1, z2, z3, z4, z5, z6]
              refine tkI (i := 6) (v := .slice (some ⟨gk, 0, none⟩) nk cap) rfl ⟨by rfl, ?_⟩ ⟨(L0.out.kid' HC.out HIL.out).1.2.1, (L0.out.kid' HC.out HIK.out.1).1.1⟩ ?_
              ·intro ww hSw
               try obtain ⟨hs0, hs1⟩ := hSw
               go_simp
              try simp only [Act.put, z1, z2, z3, z4, z5, z6]
              refine tkI (i := 7) (v := .int .i64 k) rfl ⟨by rfl, ?_⟩ ⟨(L0.out.kid' HC.out HIL.out).1.2.1, (L0.out.kid' HC.out HIK.out.1).1.1⟩ ?_
              ·intro ww hSw
               try obtain ⟨hs0, hs1⟩ := hSw
               go_simp
              try simp only [Act.put, z1, z2, z3, z4, z5, z6]
              refine tkI (i := 8) (v := .pointer (some ⟨gk, k * 3, none⟩)) rfl ⟨by rfl, ?_⟩ ⟨(L0.out.kid' HC.out HIL.out).1.2.1, (L0.out.kid' HC.out HIK.out.1).1.1⟩ ?_
              ·intro ww hSw
               try obtain ⟨hs0, hs1⟩ := hSw
               go_simp
               try (intro hge; omega)
              try simp only [Act.put, z1, z2, z3, z4, z5, z6]
              refine tkI (i := 9) (v := .pointer (some ⟨gk, k * 3, none⟩)) rfl ⟨by rfl, ?_⟩ ⟨(L0.out.kid' HC.out HIL.out).1.2.1, (L0.out.kid' HC.out HIK.out.1).1.1⟩ ?_
              ·intro ww hSw
               try obtain ⟨hs0, hs1⟩ := hSw
               go_simp
              try simp only [Act.put, z1, z2, z3, z4, z5, z6]
              refine tkI (i := 10) (v := .slice (some ⟨gf2, 0, none⟩) (K.n + 1) (K.n + 1)) rfl ⟨by rfl, ?_⟩ ⟨(L0.out.kid' HC.out HIL.out).1.2.1, (L0.out.kid' HC.out HIK.out.1).1.1⟩ ?_
              ·intro ww hSw
               try obtain ⟨hs0, hs1⟩ := hSw
               go_simp
              try simp only [Act.put, z1, z2, z3, z4, z5, z6]
              refine wpAnyH_ready (rs := [11]) (by kernel_rfl) (by simp) ?_
              refine AllReadyH.cons rfl (fun k_ hK => ?_) (AllReadyH.nil)
              go_simp
              refine (link71_any (v1 := .bool true) (v2 := .bool true) hn L0.out.d.rn (L0.out.kid' HC.out HIL.out).2.2 (L0.out.kid' HC.out HIK.out.1).2.1 ((L0.out.kid' HC.out HIL.out).2.2.ne H.out) ((L0.out.kid' HC.out HIK.out.1).2.1.ne H.out)).mono ?_
              rintro e r1 ⟨rfl, hrn, hkr⟩
              have L1 := Lib.hid (L0.out.kr_to H.out hkr hrn)
              clear hrn hkr
              refine hK.out _ _ ⟨(L1.out.kid' HC.out HIL.out).1.2.1, (L1.out.kid' HC.out HIK.out.1).1.1⟩ (fun _ => ?_)
              clear hK
              try simp only [Act.put, z1, z2, z3, z4, z5, z6]
              refine ⟨by kernel_rfl, ?_⟩
              refine NoPanic.normal ?_
              have c9 := (L1.out.kid' HC.out HIK.out.1).1.2.2
              obtain ⟨z, hz⟩ : ∃ z, ee2 = z := ⟨_, rfl⟩
              rw [hz] at c9
              go_wp2_with fail
              go_roundw
              case rel =>
               refine ⟨k + 1, by omega, by omega, by go_num, ?_, L1.out.ext (fun p q => ?_) (fun _ => Iff.rfl) (fun _ => Iff.rfl)⟩
               ·rw [show pB (x.kind = 2 ∧ Em x.kids (i + 1) (k + 1)) = z from bool_ext (by rw [pB_iff, btw_next HY.out hik _ (pB_iff.1 HBB.out), ← hz]; exact (by rw [show ee2 = y.emp from HIK.out.2]))]
               ·rw [Lm_more x (labs.length + 1) i k (p + 1) (q + 1) hik]
                have hb := pB_iff.1 HBB.out
                constructor
                ·rintro ((h | h | h) | h)
                 ·exact .inl h
                 ·exact .inr (.inl h)
                 ·exact .inr (.inr (.inl h))
                 ·exact .inr (.inr (.inr ⟨hb, h⟩))
                ·rintro (h | h | h | ⟨_, h⟩)
                 ·exact .inl (.inl h)
                 ·exact .inl (.inr (.inl h))
                 ·exact .inl (.inr (.inr h))
                 ·exact .inr h
              case measure => simp [intOf]; omega
            ·obtain rfl : nk = k := by omega
             cases b with
             | false =>
              go_wp2_with fail
              go_roundw
              case rel => exact ⟨i + 1, G1', G2', vl2, by omega, by go_num, HL3.out.ext (fun p q => by
               rw [← Lk_more x (labs.length + 1) i nk (p + 1) (q + 1) (.inl HNK.out.symm)]) (fun _ => Iff.rfl) (fun _ => Iff.rfl)⟩
              case measure => simp [intOf]; omega
             | true =>
              go_wp2_with fail
              go_roundw
              case rel => exact ⟨i + 1, G1', G2', vl2, by omega, by go_num, HL3.out.ext (fun p q => by
               rw [← Lk_more x (labs.length + 1) i nk (p + 1) (q + 1) (.inl HNK.out.symm)]) (fun _ => Iff.rfl) (fun _ => Iff.rfl)⟩
              case measure => simp [intOf]; omega
         | false =>
          go_upto_region 28 with (fail)
          obtain ⟨W6, hw6⟩ : ∃ z, W5 = z := ⟨_, rfl⟩
          obtain ⟨G1', hg'⟩ : ∃ z, G1 = z := ⟨_, rfl⟩
          have HL1 := Lib.hid (show L2 B w W6 K x nk c A vl2 (labs ++ psL x.kids) (fun p q => P p q ∨ Lk x (labs.length + 1) i (p + 1) (q + 1)) G1' G2 g6 (fun j => Qf x (labs.length + 1) (i + 1) (j + 1)) (fun j => Ql x (labs.length + 1) i (j + 1)) gk cur (labs.length + 1) l by rw [← hw6, ← hg']; exact HL.out.ext (fun _ _ => Iff.rfl) (fun j => (Qf_no x _ i (j + 1) (pB_ff HBA.out)).symm) (fun j => Iff.rfl))
          rw [hw6]
          clear hw6 hg'
          cases bb with
          | true =>
           go_upto_region 29 with (fail)
           obtain ⟨r0, hr0⟩ : ∃ z, W6.drew = z := ⟨_, rfl⟩
           have L0 := Lib.hid (show L2 B w r0 K x nk c A vl2 (labs ++ psL x.kids) (fun p q => P p q ∨ Lk x (labs.length + 1) i (p + 1) (q + 1)) G1' G2 g6 (fun j => Qf x (labs.length + 1) (i + 1) (j + 1)) (fun j => Ql x (labs.length + 1) i (j + 1)) gk cur (labs.length + 1) l by rw [← hr0]; exact HL1.out.bel HW.out (Below.refl _ _).drew)
           refine wp_region_noPanic ?_
           refine wp_region_held_drew (S := fun W => W.cell? ⟨gk, i * 3 + 1, none⟩ = some (.slice (some ⟨gg, 0, none⟩) (K.n + 1) (K.n + 1))) (by kernel_rfl) (by rw [hr0]; exact (L0.out.kid' HC.out HIL.out).1.2.1) (fun hHeld => ?_)
           clear hHeld
           rw [hr0]
           clear hr0
           refine tkI (i := 0) (v := .pointer (some ⟨g6, 1, none⟩)) rfl ⟨by rfl, ?_⟩ (L0.out.kid' HC.out HIL.out).1.2.1 ?_
           ·intro ww hSw
            try obtain ⟨hs0, hs1⟩ := hSw
            go_simp
           try simp only [Act.put, z1, z2, z3, z4, z5, z6]
           refine tkI (i := 2) (v := .slice (some ⟨gk, 0, none⟩) nk cap) rfl ⟨by rfl, ?_⟩ (L0.out.kid' HC.out HIL.out).1.2.1 ?_
           ·intro ww hSw
            try obtain ⟨hs0, hs1⟩ := hSw
            go_simp
           try simp only [Act.put, z1, z2, z3, z4, z5, z6]
           refine tkI (i := 3) (v := .int .i64 i) rfl ⟨by rfl, ?_⟩ (L0.out.kid' HC.out HIL.out).1.2.1 ?_
           ·intro ww hSw
            try obtain ⟨hs0, hs1⟩ := hSw
            go_simp
           try simp only [Act.put, z1, z2, z3, z4, z5, z6]
           refine tkI (i := 4) (v := .pointer (some ⟨gk, i * 3, none⟩)) rfl ⟨by rfl, ?_⟩ (L0.out.kid' HC.out HIL.out).1.2.1 ?_
           ·intro ww hSw
            try obtain ⟨hs0, hs1⟩ := hSw
            go_simp
            try (intro hge; omega)
           try simp only [Act.put, z1, z2, z3, z4, z5, z6]
           refine tkI (i := 5) (v := .pointer (some ⟨gk, i * 3 + 1, none⟩)) rfl ⟨by rfl, ?_⟩ (L0.out.kid' HC.out HIL.out).1.2.1 ?_
           ·intro ww hSw
            try obtain ⟨hs0, hs1⟩ := hSw
            go_simp
           try simp only [Act.put, z1, z2, z3, z4, z5, z6]
           refine tkI (i := 6) (v := .slice (some ⟨gg, 0, none⟩) (K.n + 1) (K.n + 1)) rfl ⟨by rfl, ?_⟩ (L0.out.kid' HC.out HIL.out).1.2.1 ?_
           ·intro ww hSw
            try obtain ⟨hs0, hs1⟩ := hSw
            go_simp
           try simp only [Act.put, z1, z2, z3, z4, z5, z6]
           refine wpAnyH_ready (rs := [1]) (by kernel_rfl) (by simp) ?_
           refine AllReadyH.cons rfl (fun k_ hK => ?_) (AllReadyH.nil)
           have q1 := (three_cells L0.out.d.p6).1.2.1
           go_simp
           clear q1
           refine hK.out _ _ (L0.out.kid' HC.out HIL.out).1.2.1 (fun _ => ?_)
           clear hK
           try simp only [Act.put, z1, z2, z3, z4, z5, z6]
           refine wpAnyH_ready (rs := [7]) (by kernel_rfl) (by simp) ?_
           refine AllReadyH.cons rfl (fun k_ hK => ?_) (AllReadyH.nil)
           go_simp
           refine (either58_any hn ⟨_, rfl, L0.out.d.f2⟩ ⟨_, rfl, (L0.out.kid' HC.out HIL.out).2.2⟩).mono ?_
           rintro e r1 ⟨v', rfl, ⟨g', rfl, hf⟩, hb⟩
           have L1 := Lib.hid (L0.out.bel HW.out hb)
           have HF := Lib.hid (hf.mono L0.out.d.kr.size)
           clear hf hb
           refine hK.out _ _ (L1.out.kid' HC.out HIL.out).1.2.1 (fun _ => ?_)
           clear hK
           try simp only [Act.put, z1, z2, z3, z4, z5, z6]
           refine tkI (i := 8) (v := .pointer (some ⟨g6, 1, none⟩)) rfl ⟨by rfl, ?_⟩ (L1.out.kid' HC.out HIL.out).1.2.1 ?_
           ·intro ww hSw
            try obtain ⟨hs0, hs1⟩ := hSw
            go_simp
           try simp only [Act.put, z1, z2, z3, z4, z5, z6]
           refine wpAnyH_ready (rs := [9]) (by kernel_rfl) (by simp) ?_
           refine AllReadyH.cons rfl (fun k_ hK => ?_) (AllReadyH.nil)
           obtain ⟨⟨q0, q1, q2⟩, f0, f1, f2⟩ := three_cells L1.out.d.p6
           go_simp
           clear q0 q1 q2 f0 f1 f2
           have L2_ := Lib.hid (L1.out.put2 HW.out H6.out HLK.out HF.out)
           refine hK.out _ _ (L2_.out.kid' HC.out HIL.out).1.2.1 (fun _ => ?_)
           clear hK
           try simp only [Act.put, z1, z2, z3, z4, z5, z6]
           refine ⟨by kernel_rfl, ?_⟩
           refine NoPanic.normal ?_
           obtain ⟨W7, hw6⟩ : ∃ z, r1.setCell ⟨g6, 1, none⟩ (.slice (some ⟨g', 0, none⟩) (K.n + 1) (K.n + 1)) = z := ⟨_, rfl⟩
           obtain ⟨G2', hg'⟩ : ∃ z, g' = z := ⟨_, rfl⟩
           have HL2 := Lib.hid (show L2 B w W7 K x nk c A vl2 (labs ++ psL x.kids) (fun p q => P p q ∨ Lk x (labs.length + 1) i (p + 1) (q + 1)) G1' G2' g6 (fun j => Qf x (labs.length + 1) (i + 1) (j + 1)) (fun j => Ql x (labs.length + 1) (i + 1) (j + 1)) gk cur (labs.length + 1) l by rw [← hw6, ← hg']; exact L2_.out.ext (fun _ _ => Iff.rfl) (fun j => Iff.rfl) (fun j => (Ql_yes x _ i (j + 1) (by rw [HNK.out]; exact pB_iff.1 HBL.out)).symm))
           rw [hw6]
           clear hw6 hg' L0 L1 L2_ HF
           obtain ⟨⟨c0, -, -⟩, -⟩ := three_cells HL2.out.d.bx
           obtain ⟨e2, he2⟩ : ∃ e2, (x.kind == 2) = e2 := ⟨_, rfl⟩
           have HE2 := Lib.hid he2
           go_upto_region 32 with (fail)
           clear c0 he2
           go_loopw [15, 16] (fun u15 u16 wq => ∃ k : Nat, i + 1 ≤ k ∧ k ≤ nk ∧ u16 = .int .i64 k ∧ u15 = .bool (pB (x.kind = 2 ∧ Em x.kids (i + 1) k)) ∧ L2 B w wq K x nk c A vl2 (labs ++ psL x.kids) (fun p q => P p q ∨ Lk x (labs.length + 1) i (p + 1) (q + 1) ∨ Lm x (labs.length + 1) i k (p + 1) (q + 1)) G1' G2' g6 (fun j => Qf x (labs.length + 1) (i + 1) (j + 1)) (fun j => Ql x (labs.length + 1) (i + 1) (j + 1)) gk cur (labs.length + 1) l) (fun _ u16 _ => nk - (intOf u16).toNat)
           case atStart =>
            refine ⟨i + 1, Nat.le_refl _, by omega, by go_num, ?_, HL2.out.ext (fun p q => ⟨fun h => h.elim .inl (fun h => .inr (.inl h)), fun h => h.elim .inl (fun h => h.elim .inr (fun h => absurd h (Lm_zero _ _ _ _ _)))⟩) (fun _ => Iff.rfl) (fun _ => Iff.rfl)⟩
            rw [show pB (x.kind = 2 ∧ Em x.kids (i + 1) (i + 1)) = e2 from bool_ext (by rw [pB_iff, ← HE2.out, beq_iff_eq]; exact ⟨fun h => h.1, fun h => ⟨h, Em_nil _ _⟩⟩)]
           case round =>
            obtain ⟨k, hik, hki, rfl, rfl, hL⟩ := hrel
            obtain ⟨W8, hW8⟩ : ∃ z, wr = z := ⟨_, rfl⟩
            rw [hW8] at hL ⊢
            have HL3 := Lib.hid hL
            clear hL hW8
            obtain ⟨b, hb⟩ : ∃ b, pB (x.kind = 2 ∧ Em x.kids (i + 1) k) = b := ⟨_, rfl⟩
            rw [hb]
            have HBB := Lib.hid hb
            clear hb
            have hk24 : k ≤ 24 := by have := HNK24.out; omega
            by_cases hlt : k < nk
            ·cases b with
             | false =>
              go_wp2_with fail
              go_roundw
              case rel => exact ⟨i + 1, G1', G2', vl2, by omega, by go_num, HL3.out.ext (fun p q => by
               rw [← Lk_more x (labs.length + 1) i k (p + 1) (q + 1) (.inr (pB_ff HBB.out))]) (fun _ => Iff.rfl) (fun _ => Iff.rfl)⟩
              case measure => simp [intOf]; omega
             | true =>
              go_upto_region 34 with (fail)
              obtain ⟨y, hy⟩ := HKID.out k hlt
              have HY := Lib.hid hy
              clear hy
              have hkl := List.getElem?_eq_getElem (l := l) (i := k) (by rw [HLL.out]; exact hlt)
              obtain ⟨gf2, gg2, ee2, hq2⟩ : ∃ a b c, l[k]'(by rw [HLL.out]; exact hlt) = (a, b, c) := ⟨_, _, _, rfl⟩
              have he := HL3.out.g.e k (by rw [HLL.out]; exact hlt) y HY.out
              rw [hq2] at hkl he
              have HIK := Lib.hid (And.intro hkl he)
              clear hkl hq2 he
              obtain ⟨r0, hr0⟩ : ∃ z, W8.drew = z := ⟨_, rfl⟩
              have L0 := Lib.hid (show L2 B w r0 K x nk c A vl2 (labs ++ psL x.kids) (fun p q => P p q ∨ Lk x (labs.length + 1) i (p + 1) (q + 1) ∨ Lm x (labs.length + 1) i k (p + 1) (q + 1)) G1' G2' g6 (fun j => Qf x (labs.length + 1) (i + 1) (j + 1)) (fun j => Ql x (labs.length + 1) (i + 1) (j + 1)) gk cur (labs.length + 1) l by rw [← hr0]; exact HL3.out.bel HW.out (Below.refl _ _).drew)
              refine wp_region_noPanic ?_
              refine wp_region_held_drew (S := fun W => W.cell? ⟨gk, i * 3 + 1, none⟩ = some (.slice (some ⟨gg, 0, none⟩) (K.n + 1) (K.n + 1)) ∧ W.cell? ⟨gk, k * 3, none⟩ = some (.slice (some ⟨gf2, 0, none⟩) (K.n + 1) (K.n + 1))) (by kernel_rfl) (by rw [hr0]; exact ⟨(L0.out.kid' HC.out HIL.out).1.2.1, (L0.out.kid' HC.out HIK.out.1).1.1⟩) (fun hHeld => ?_)
              clear hHeld
              rw [hr0]
              clear hr0
              refine tkI (i := 0) (v := .pointer (some ⟨K.R, 0, none⟩)) rfl ⟨by rfl, ?_⟩ ⟨(L0.out.kid' HC.out HIL.out).1.2.1, (L0.out.kid' HC.out HIK.out.1).1.1⟩ ?_
              ·intro ww hSw
               try obtain ⟨hs0, hs1⟩ := hSw
               go_simp
              try simp only [Act.put, z1, z2, z3, z4, z5, z6]
              refine tkI (i := 1) (v := .slice (some ⟨gk, 0, none⟩) nk cap) rfl ⟨by rfl, ?_⟩ ⟨(L0.out.kid' HC.out HIL.out).1.2.1, (L0.out.kid' HC.out HIK.out.1).1.1⟩ ?_
              ·intro ww hSw
               try obtain ⟨hs0, hs1⟩ := hSw
               go_simp
              try simp only [Act.put, z1, z2, z3, z4, z5, z6]
              refine tkI (i := 2) (v := .int .i64 i) rfl ⟨by rfl, ?_⟩ ⟨(L0.out.kid' HC.out HIL.out).1.2.1, (L0.out.kid' HC.out HIK.out.1).1.1⟩ ?_
              ·intro ww hSw
               try obtain ⟨hs0, hs1⟩ := hSw
               go_simp
              try simp only [Act.put, z1, z2, z3, z4, z5, z6]
              refine tkI (i := 3) (v := .pointer (some ⟨gk, i * 3, none⟩)) rfl ⟨by rfl, ?_⟩ ⟨(L0.out.kid' HC.out HIL.out).1.2.1, (L0.out.kid' HC.out HIK.out.1).1.1⟩ ?_
              ·intro ww hSw
               try obtain ⟨hs0, hs1⟩ := hSw
               go_simp
               try (intro hge; omega)
              try simp only [Act.put, z1, z2, z3, z4, z5, z6]
              refine tkI (i := 4) (v := .pointer (some ⟨gk, i * 3 + 1, none⟩)) rfl ⟨by rfl, ?_⟩ ⟨(L0.out.kid' HC.out HIL.out).1.2.1, (L0.out.kid' HC.out HIK.out.1).1.1⟩ ?_
              ·intro ww hSw
               try obtain ⟨hs0, hs1⟩ := hSw
               go_simp
              try simp only [Act.put, z1, z2, z3, z4, z5, z6]
              refine tkI (i := 5) (v := .slice (some ⟨gg, 0, none⟩) (K.n + 1) (K.n + 1)) rfl ⟨by rfl, ?_⟩ ⟨(L0.out.kid' HC.out HIL.out).1.2.1, (L0.out.kid' HC.out HIK.out.1).1.1⟩ ?_
              ·intro ww hSw
               try obtain ⟨hs0, hs1⟩ := hSw
               go_simp
              try simp only [Act.put, z1, z2, z3, z4, z5, z6]
              refine tkI (i := 6) (v := .slice (some ⟨gk, 0, none⟩) nk cap) rfl ⟨by rfl, ?_⟩ ⟨(L0.out.kid' HC.out HIL.out).1.2.1, (L0.out.kid' HC.out HIK.out.1).1.1⟩ ?_
              ·intro ww hSw
               try obtain ⟨hs0, hs1⟩ := hSw
               go_simp
              try simp only [Act.put, z1, z2, z3, z4, z5, z6]
              refine tkI (i := 7) (v := .int .i64 k) rfl ⟨by rfl, ?_⟩ ⟨(L0.out.kid' HC.out HIL.out).1.2.1, (L0.out.kid' HC.out HIK.out.1).1.1⟩ ?_
              ·intro ww hSw
               try obtain ⟨hs0, hs1⟩ := hSw
               go_simp
              try simp only [Act.put, z1, z2, z3, z4, z5, z6]
              refine tkI (i := 8) (v := .pointer (some ⟨gk, k * 3, none⟩)) rfl ⟨by rfl, ?_⟩ ⟨(L0.out.kid' HC.out HIL.out).1.2.1, (L0.out.kid' HC.out HIK.out.1).1.1⟩ ?_
              ·intro ww hSw
               try obtain ⟨hs0, hs1⟩ := hSw
               go_simp
               try (intro hge; omega)
              try simp only [Act.put, z1, z2, z3, z4, z5, z6]
              refine tkI (i := 9) (v := .pointer (some ⟨gk, k * 3, none⟩)) rfl ⟨by rfl, ?_⟩ ⟨(L0.out.kid' HC.out HIL.out).1.2.1, (L0.out.kid' HC.out HIK.out.1).1.1⟩ ?_
              ·intro ww hSw
               try obtain ⟨hs0, hs1⟩ := hSw
               go_simp
              try simp only [Act.put, z1, z2, z3, z4, z5, z6]
              refine tkI (i := 10) (v := .slice (some ⟨gf2, 0, none⟩) (K.n + 1) (K.n + 1)) rfl ⟨by rfl, ?_⟩ ⟨(L0.out.kid' HC.out HIL.out).1.2.1, (L0.out.kid' HC.out HIK.out.1).1.1⟩ ?_
              ·intro ww hSw
               try obtain ⟨hs0, hs1⟩ := hSw
               go_simp
              try simp only [Act.put, z1, z2, z3, z4, z5, z6]
              refine wpAnyH_ready (rs := [11]) (by kernel_rfl) (by simp) ?_
              refine AllReadyH.cons rfl (fun k_ hK => ?_) (AllReadyH.nil)
              go_simp
              refine (link71_any (v1 := .bool true) (v2 := .bool true) hn L0.out.d.rn (L0.out.kid' HC.out HIL.out).2.2 (L0.out.kid' HC.out HIK.out.1).2.1 ((L0.out.kid' HC.out HIL.out).2.2.ne H.out) ((L0.out.kid' HC.out HIK.out.1).2.1.ne H.out)).mono ?_
              rintro e r1 ⟨rfl, hrn, hkr⟩
              have L1 := Lib.hid (L0.out.kr_to H.out hkr hrn)
              clear hrn hkr
              refine hK.out _ _ ⟨(L1.out.kid' HC.out HIL.out).1.2.1, (L1.out.kid' HC.out HIK.out.1).1.1⟩ (fun _ => ?_)
              clear hK
              try simp only [Act.put, z1, z2, z3, z4, z5, z6]
              refine ⟨by kernel_rfl, ?_⟩
              refine NoPanic.normal ?_
              have c9 := (L1.out.kid' HC.out HIK.out.1).1.2.2
              obtain ⟨z, hz⟩ : ∃ z, ee2 = z := ⟨_, rfl⟩
              rw [hz] at c9
              go_wp2_with fail
              go_roundw
              case rel =>
               refine ⟨k + 1, by omega, by omega, by go_num, ?_, L1.out.ext (fun p q => ?_) (fun _ => Iff.rfl) (fun _ => Iff.rfl)⟩
               ·rw [show pB (x.kind = 2 ∧ Em x.kids (i + 1) (k + 1)) = z from bool_ext (by rw [pB_iff, btw_next HY.out hik _ (pB_iff.1 HBB.out), ← hz]; exact (by rw [show ee2 = y.emp from HIK.out.2]))]
               ·rw [Lm_more x (labs.length + 1) i k (p + 1) (q + 1) hik]
                have hb := pB_iff.1 HBB.out
                constructor
                ·rintro ((h | h | h) | h)
                 ·exact .inl h
                 ·exact .inr (.inl h)
                 ·exact .inr (.inr (.inl h))
                 ·exact .inr (.inr (.inr ⟨hb, h⟩))
                ·rintro (h | h | h | ⟨_, h⟩)
                 ·exact .inl (.inl h)
                 ·exact .inl (.inr (.inl h))
                 ·exact .inl (.inr (.inr h))
                 ·exact .inr h
              case measure => simp [intOf]; omega
            ·obtain rfl : nk = k := by omega
             cases b with
             | false =>
              go_wp2_with fail
              go_roundw
              case rel => exact ⟨i + 1, G1', G2', vl2, by omega, by go_num, HL3.out.ext (fun p q => by
               rw [← Lk_more x (labs.length + 1) i nk (p + 1) (q + 1) (.inl HNK.out.symm)]) (fun _ => Iff.rfl) (fun _ => Iff.rfl)⟩
              case measure => simp [intOf]; omega
             | true =>
              go_wp2_with fail
              go_roundw
              case rel => exact ⟨i + 1, G1', G2', vl2, by omega, by go_num, HL3.out.ext (fun p q => by
               rw [← Lk_more x (labs.length + 1) i nk (p + 1) (q + 1) (.inl HNK.out.symm)]) (fun _ => Iff.rfl) (fun _ => Iff.rfl)⟩
              case measure => simp [intOf]; omega
          | false =>
           go_upto_region 30 with (fail)
           obtain ⟨W7, hw6⟩ : ∃ z, W6 = z := ⟨_, rfl⟩
           obtain ⟨G2', hg'⟩ : ∃ z, G2 = z := ⟨_, rfl⟩
           have HL2 := Lib.hid (show L2 B w W7 K x nk c A vl2 (labs ++ psL x.kids) (fun p q => P p q ∨ Lk x (labs.length + 1) i (p + 1) (q + 1)) G1' G2' g6 (fun j => Qf x (labs.length + 1) (i + 1) (j + 1)) (fun j => Ql x (labs.length + 1) (i + 1) (j + 1)) gk cur (labs.length + 1) l by rw [← hw6, ← hg']; exact HL1.out.ext (fun _ _ => Iff.rfl) (fun j => Iff.rfl) (fun j => (Ql_no x _ i (j + 1) (by rw [HNK.out]; exact pB_ff HBL.out)).symm))
           rw [hw6]
           clear hw6 hg'
           obtain ⟨⟨c0, -, -⟩, -⟩ := three_cells HL2.out.d.bx
           obtain ⟨e2, he2⟩ : ∃ e2, (x.kind == 2) = e2 := ⟨_, rfl⟩
           have HE2 := Lib.hid he2
           go_upto_region 32 with (fail)
           clear c0 he2
           go_loopw [15, 16] (fun u15 u16 wq => ∃ k : Nat, i + 1 ≤ k ∧ k ≤ nk ∧ u16 = .int .i64 k ∧ u15 = .bool (pB (x.kind = 2 ∧ Em x.kids (i + 1) k)) ∧ L2 B w wq K x nk c A vl2 (labs ++ psL x.kids) (fun p q => P p q ∨ Lk x (labs.length + 1) i (p + 1) (q + 1) ∨ Lm x (labs.length + 1) i k (p + 1) (q + 1)) G1' G2' g6 (fun j => Qf x (labs.length + 1) (i + 1) (j + 1)) (fun j => Ql x (labs.length + 1) (i + 1) (j + 1)) gk cur (labs.length + 1) l) (fun _ u16 _ => nk - (intOf u16).toNat)
           case atStart =>
            refine ⟨i + 1, Nat.le_refl _, by omega, by go_num, ?_, HL2.out.ext (fun p q => ⟨fun h => h.elim .inl (fun h => .inr (.inl h)), fun h => h.elim .inl (fun h => h.elim .inr (fun h => absurd h (Lm_zero _ _ _ _ _)))⟩) (fun _ => Iff.rfl) (fun _ => Iff.rfl)⟩
            rw [show pB (x.kind = 2 ∧ Em x.kids (i + 1) (i + 1)) = e2 from bool_ext (by rw [pB_iff, ← HE2.out, beq_iff_eq]; exact ⟨fun h => h.1, fun h => ⟨h, Em_nil _ _⟩⟩)]
           case round =>
            obtain ⟨k, hik, hki, rfl, rfl, hL⟩ := hrel
            obtain ⟨W8, hW8⟩ : ∃ z, wr = z := ⟨_, rfl⟩
            rw [hW8] at hL ⊢
            have HL3 := Lib.hid hL
            clear hL hW8
            obtain ⟨b, hb⟩ : ∃ b, pB (x.kind = 2 ∧ Em x.kids (i + 1) k) = b := ⟨_, rfl⟩
            rw [hb]
            have HBB := Lib.hid hb
            clear hb
            have hk24 : k ≤ 24 := by have := HNK24.out; omega
            by_cases hlt : k < nk
            ·cases b with
             | false =>
              go_wp2_with fail
              go_roundw
              case rel => exact ⟨i + 1, G1', G2', vl2, by omega, by go_num, HL3.out.ext (fun p q => by
               rw [← Lk_more x (labs.length + 1) i k (p + 1) (q + 1) (.inr (pB_ff HBB.out))]) (fun _ => Iff.rfl) (fun _ => Iff.rfl)⟩
              case measure => simp [intOf]; omega
             | true =>
              go_upto_region 34 with (fail)
              obtain ⟨y, hy⟩ := HKID.out k hlt
              have HY := Lib.hid hy
              clear hy
              have hkl := List.getElem?_eq_getElem (l := l) (i := k) (by rw [HLL.out]; exact hlt)
              obtain ⟨gf2, gg2, ee2, hq2⟩ : ∃ a b c, l[k]'(by rw [HLL.out]; exact hlt) = (a, b, c) := ⟨_, _, _, rfl⟩
              have he := HL3.out.g.e k (by rw [HLL.out]; exact hlt) y HY.out
              rw [hq2] at hkl he
              have HIK := Lib.hid (And.intro hkl he)
              clear hkl hq2 he
              obtain ⟨r0, hr0⟩ : ∃ z, W8.drew = z := ⟨_, rfl⟩
              have L0 := Lib.hid (show L2 B w r0 K x nk c A vl2 (labs ++ psL x.kids) (fun p q => P p q ∨ Lk x (labs.length + 1) i (p + 1) (q + 1) ∨ Lm x (labs.length + 1) i k (p + 1) (q + 1)) G1' G2' g6 (fun j => Qf x (labs.length + 1) (i + 1) (j + 1)) (fun j => Ql x (labs.length + 1) (i + 1) (j + 1)) gk cur (labs.length + 1) l by rw [← hr0]; exact HL3.out.bel HW.out (Below.refl _ _).drew)
              refine wp_region_noPanic ?_
              refine wp_region_held_drew (S := fun W => W.cell? ⟨gk, i * 3 + 1, none⟩ = some (.slice (some ⟨gg, 0, none⟩) (K.n + 1) (K.n + 1)) ∧ W.cell? ⟨gk, k * 3, none⟩ = some (.slice (some ⟨gf2, 0, none⟩) (K.n + 1) (K.n + 1))) (by kernel_rfl) (by rw [hr0]; exact ⟨(L0.out.kid' HC.out HIL.out).1.2.1, (L0.out.kid' HC.out HIK.out.1).1.1⟩) (fun hHeld => ?_)
              clear hHeld
              rw [hr0]
              clear hr0
              refine tkI (i := 0) (v := .pointer (some ⟨K.R, 0, none⟩)) rfl ⟨by rfl, ?_⟩ ⟨(L0.out.kid' HC.out HIL.out).1.2.1, (L0.out.kid' HC.out HIK.out.1).1.1⟩ ?_
              ·intro ww hSw
               try obtain ⟨hs0, hs1⟩ := hSw
               go_simp
              try simp only [Act.put, z1, z2, z3, z4, z5, z6]
              refine tkI (i := 1) (v := .slice (some ⟨gk, 0, none⟩) nk cap) rfl ⟨by rfl, ?_⟩ ⟨(L0.out.kid' HC.out HIL.out).1.2.1, (L0.out.kid' HC.out HIK.out.1).1.1⟩ ?_
              ·intro ww hSw
               try obtain ⟨hs0, hs1⟩ := hSw
               go_simp
              try simp only [Act.put, z1, z2, z3, z4, z5, z6]
              refine tkI (i := 2) (v := .int .i64 i) rfl ⟨by rfl, ?_⟩ ⟨(L0.out.kid' HC.out HIL.out).1.2.1, (L0.out.kid' HC.out HIK.out.1).1.1⟩ ?_
              ·intro ww hSw
               try obtain ⟨hs0, hs1⟩ := hSw
               go_simp
              try simp only [Act.put, z1, z2, z3, z4, z5, z6]
              refine tkI (i := 3) (v := .pointer (some ⟨gk, i * 3, none⟩)) rfl ⟨by rfl, ?_⟩ ⟨(L0.out.kid' HC.out HIL.out).1.2.1, (L0.out.kid' HC.out HIK.out.1).1.1⟩ ?_
              ·intro ww hSw
               try obtain ⟨hs0, hs1⟩ := hSw
               go_simp
               try (intro hge; omega)
              try simp only [Act.put, z1, z2, z3, z4, z5, z6]
              refine tkI (i := 4) (v := .pointer (some ⟨gk, i * 3 + 1, none⟩)) rfl ⟨by rfl, ?_⟩ ⟨(L0.out.kid' HC.out HIL.out).1.2.1, (L0.out.kid' HC.out HIK.out.1).1.1⟩ ?_
              ·intro ww hSw
               try obtain ⟨hs0, hs1⟩ := hSw
               go_simp
              try simp only [Act.put, z1, z2, z3, z4, z5, z6]
              refine tkI (i := 5) (v := .slice (some ⟨gg, 0, none⟩) (K.n + 1) (K.n + 1)) rfl ⟨by rfl, ?_⟩ ⟨(L0.out.kid' HC.out HIL.out).1.2.1, (L0.out.kid' HC.out HIK.out.1).1.1⟩ ?_
              ·intro ww hSw
               try obtain ⟨hs0, hs1⟩ := hSw
               go_simp
              try simp only [Act.put, z1, z2, z3, z4, z5, z6]
              refine tkI (i := 6) (v := .slice (some ⟨gk, 0, none⟩) nk cap) rfl ⟨by rfl, ?_⟩ ⟨(L0.out.kid' HC.out HIL.out).1.2.1, (L0.out.kid' HC.out HIK.out.1).1.1⟩ ?_
              ·intro ww hSw
               try obtain ⟨hs0, hs1⟩ := hSw
               go_simp
              try simp only [Act.put, z1, z2, z3, z4, z5, z6]
              refine tkI (i := 7) (v := .int .i64 k) rfl ⟨by rfl, ?_⟩ ⟨(L0.out.kid' HC.out HIL.out).1.2.1, (L0.out.kid' HC.out HIK.out.1).1.1⟩ ?_
              ·intro ww hSw
               try obtain ⟨hs0, hs1⟩ := hSw
               go_simp
              try simp only [Act.put, z1, z2, z3, z4, z5, z6]
              refine tkI (i := 8) (v := .pointer (some ⟨gk, k * 3, none⟩)) rfl ⟨by rfl, ?_⟩ ⟨(L0.out.kid' HC.out HIL.out).1.2.1, (L0.out.kid' HC.out HIK.out.1).1.1⟩ ?_
              ·intro ww hSw
               try obtain ⟨hs0, hs1⟩ := hSw
               go_simp
               try (intro hge; omega)
              try simp only [Act.put, z1, z2, z3, z4, z5, z6]
              refine tkI (i := 9) (v := .pointer (some ⟨gk, k * 3, none⟩)) rfl ⟨by rfl, ?_⟩ ⟨(L0.out.kid' HC.out HIL.out).1.2.1, (L0.out.kid' HC.out HIK.out.1).1.1⟩ ?_
              ·intro ww hSw
               try obtain ⟨hs0, hs1⟩ := hSw
               go_simp
              try simp only [Act.put, z1, z2, z3, z4, z5, z6]
              refine tkI (i := 10) (v := .slice (some ⟨gf2, 0, none⟩) (K.n + 1) (K.n + 1)) rfl ⟨by rfl, ?_⟩ ⟨(L0.out.kid' HC.out HIL.out).1.2.1, (L0.out.kid' HC.out HIK.out.1).1.1⟩ ?_
              ·intro ww hSw
               try obtain ⟨hs0, hs1⟩ := hSw
               go_simp
              try simp only [Act.put, z1, z2, z3, z4, z5, z6]
              refine wpAnyH_ready (rs := [11]) (by kernel_rfl) (by simp) ?_
              refine AllReadyH.cons rfl (fun k_ hK => ?_) (AllReadyH.nil)
              go_simp
              refine (link71_any (v1 := .bool true) (v2 := .bool true) hn L0.out.d.rn (L0.out.kid' HC.out HIL.out).2.2 (L0.out.kid' HC.out HIK.out.1).2.1 ((L0.out.kid' HC.out HIL.out).2.2.ne H.out) ((L0.out.kid' HC.out HIK.out.1).2.1.ne H.out)).mono ?_
              rintro e r1 ⟨rfl, hrn, hkr⟩
              have L1 := Lib.hid (L0.out.kr_to H.out hkr hrn)
              clear hrn hkr
              refine hK.out _ _ ⟨(L1.out.kid' HC.out HIL.out).1.2.1, (L1.out.kid' HC.out HIK.out.1).1.1⟩ (fun _ => ?_)
              clear hK
              try simp only [Act.put, z1, z2, z3, z4, z5, z6]
              refine ⟨by kernel_rfl, ?_⟩
              refine NoPanic.normal ?_
              have c9 := (L1.out.kid' HC.out HIK.out.1).1.2.2
              obtain ⟨z, hz⟩ : ∃ z, ee2 = z := ⟨_, rfl⟩
              rw [hz] at c9
              go_wp2_with fail
              go_roundw
              case rel =>
               refine ⟨k + 1, by omega, by omega, by go_num, ?_, L1.out.ext (fun p q => ?_) (fun _ => Iff.rfl) (fun _ => Iff.rfl)⟩
               ·rw [show pB (x.kind = 2 ∧ Em x.kids (i + 1) (k + 1)) = z from bool_ext (by rw [pB_iff, btw_next HY.out hik _ (pB_iff.1 HBB.out), ← hz]; exact (by rw [show ee2 = y.emp from HIK.out.2]))]
               ·rw [Lm_more x (labs.length + 1) i k (p + 1) (q + 1) hik]
                have hb := pB_iff.1 HBB.out
                constructor
                ·rintro ((h | h | h) | h)
                 ·exact .inl h
                 ·exact .inr (.inl h)
                 ·exact .inr (.inr (.inl h))
                 ·exact .inr (.inr (.inr ⟨hb, h⟩))
                ·rintro (h | h | h | ⟨_, h⟩)
                 ·exact .inl (.inl h)
                 ·exact .inl (.inr (.inl h))
                 ·exact .inl (.inr (.inr h))
                 ·exact .inr h
              case measure => simp [intOf]; omega
            ·obtain rfl : nk = k := by omega
             cases b with
             | false =>
              go_wp2_with fail
              go_roundw
              case rel => exact ⟨i + 1, G1', G2', vl2, by omega, by go_num, HL3.out.ext (fun p q => by
               rw [← Lk_more x (labs.length + 1) i nk (p + 1) (q + 1) (.inl HNK.out.symm)]) (fun _ => Iff.rfl) (fun _ => Iff.rfl)⟩
              case measure => simp [intOf]; omega
             | true =>
              go_wp2_with fail
              go_roundw
              case rel => exact ⟨i + 1, G1', G2', vl2, by omega, by go_num, HL3.out.ext (fun p q => by
               rw [← Lk_more x (labs.length + 1) i nk (p + 1) (q + 1) (.inl HNK.out.symm)]) (fun _ => Iff.rfl) (fun _ => Iff.rfl)⟩
              case measure => simp [intOf]; omega
    ·obtain rfl : nk = i := by omega
     obtain ⟨⟨c0, -, -⟩, -⟩ := three_cells HL.out.d.bx
     by_cases h4 : x.kind = 4
     ·rw [h4] at c0
      have H4 := Lib.hid h4
      clear h4
      go_upto_region 37 with (fail)
      clear c0
      obtain ⟨⟨p0, p1, p2⟩, -⟩ := three_cells HL.out.d.p6
      have HLINK := Lib.hid (link71_any (v1 := .bool true) (v2 := .bool true) hn HL.out.d.rn HL.out.d.f2 HL.out.d.f1 (HL.out.d.f2.ne H.out) (HL.out.d.f1.ne H.out))
      go_upto_region 38 with (go_at_call 71; go_loud (refine HLINK.out.mono ?_; rintro e W6 ⟨rfl, hrn, hkr⟩; have HE := Lib.hid (HL.out.kr_to H.out hkr hrn); clear hrn hkr))
      clear p0 p1 p2
      obtain ⟨⟨p0, p1, p2⟩, -⟩ := three_cells HE.out.d.p6
      obtain ⟨⟨b0, b1, b2⟩, f0, f1, f2⟩ := three_cells HE.out.d.rb
      go_wp2_with fail
      clear p0 p1 p2 b0 b1 b2 f0 f1 f2
      have F := HE.out.d.fin HW.out (.slice (some ⟨G1, 0, none⟩) (K.n + 1) (K.n + 1)) (.slice (some ⟨G2, 0, none⟩) (K.n + 1) (K.n + 1)) (.bool x.emp)
      unfold set3' at F
      obtain ⟨F1, F2, F3, F4, F5⟩ := F
      obtain ⟨⟨e0, e1, e2⟩, -⟩ := three_cells F5
      try simp only [Exit.inBlock, Exit.then]
      refine bodyPost_ret (v := .agg #[.slice (some ⟨G1, 0, none⟩) (K.n + 1) (K.n + 1), .slice (some ⟨G2, 0, none⟩) (K.n + 1) (K.n + 1), .bool x.emp]) (by simp [results, Tryd.results49, go_sem, e0, e1, e2]) rfl ?_
      have hps : x.ps = psL x.kids := by rw [X.ps_eq, if_neg H1.out]
      have hlen := HNK.out
      refine ⟨vl2, G1, G2, rfl, ?_, F2.ext (fun j _ => ?_), F3.ext (fun j _ => ?_), F4⟩
      ·rw [hps]
       refine F1.ext (fun p q _ _ => ?_)
       rw [fol_kids H1.out, hlen]
       rw [← fst_Qf H1.out, ← lst_Ql H1.out, hlen]
       constructor
       ·rintro ((h | h) | h)
        ·exact .inl h
        ·exact .inr (.inl h)
        ·exact .inr (.inr ⟨.inl H4.out, h⟩)
       ·rintro (h | h | ⟨_, h⟩)
        ·exact .inl (.inl h)
        ·exact .inl (.inr h)
        ·exact .inr h
      ·rw [← fst_Qf H1.out, hlen]
      ·rw [← lst_Ql H1.out, hlen]
     ·by_cases h5 : x.kind = 5
      ·rw [h5] at c0
       have H5 := Lib.hid h5
       clear h4 h5
       go_upto_region 37 with (fail)
       clear c0
       obtain ⟨⟨p0, p1, p2⟩, -⟩ := three_cells HL.out.d.p6
       have HLINK := Lib.hid (link71_any (v1 := .bool true) (v2 := .bool true) hn HL.out.d.rn HL.out.d.f2 HL.out.d.f1 (HL.out.d.f2.ne H.out) (HL.out.d.f1.ne H.out))
       go_upto_region 38 with (go_at_call 71; go_loud (refine HLINK.out.mono ?_; rintro e W6 ⟨rfl, hrn, hkr⟩; have HE := Lib.hid (HL.out.kr_to H.out hkr hrn); clear hrn hkr))
       clear p0 p1 p2
       obtain ⟨⟨p0, p1, p2⟩, -⟩ := three_cells HE.out.d.p6
       obtain ⟨⟨b0, b1, b2⟩, f0, f1, f2⟩ := three_cells HE.out.d.rb
       go_wp2_with fail
       clear p0 p1 p2 b0 b1 b2 f0 f1 f2
       have F := HE.out.d.fin HW.out (.slice (some ⟨G1, 0, none⟩) (K.n + 1) (K.n + 1)) (.slice (some ⟨G2, 0, none⟩) (K.n + 1) (K.n + 1)) (.bool x.emp)
       unfold set3' at F
       obtain ⟨F1, F2, F3, F4, F5⟩ := F
       obtain ⟨⟨e0, e1, e2⟩, -⟩ := three_cells F5
       try simp only [Exit.inBlock, Exit.then]
       refine bodyPost_ret (v := .agg #[.slice (some ⟨G1, 0, none⟩) (K.n + 1) (K.n + 1), .slice (some ⟨G2, 0, none⟩) (K.n + 1) (K.n + 1), .bool x.emp]) (by simp [results, Tryd.results49, go_sem, e0, e1, e2]) rfl ?_
       have hps : x.ps = psL x.kids := by rw [X.ps_eq, if_neg H1.out]
       have hlen := HNK.out
       refine ⟨vl2, G1, G2, rfl, ?_, F2.ext (fun j _ => ?_), F3.ext (fun j _ => ?_), F4⟩
       ·rw [hps]
        refine F1.ext (fun p q _ _ => ?_)
        rw [fol_kids H1.out, hlen]
        rw [← fst_Qf H1.out, ← lst_Ql H1.out, hlen]
        constructor
        ·rintro ((h | h) | h)
         ·exact .inl h
         ·exact .inr (.inl h)
         ·exact .inr (.inr ⟨.inr H5.out, h⟩)
        ·rintro (h | h | ⟨_, h⟩)
         ·exact .inl (.inl h)
         ·exact .inl (.inr h)
         ·exact .inr h
       ·rw [← fst_Qf H1.out, hlen]
       ·rw [← lst_Ql H1.out, hlen]
      ·have ek4 : (x.kind == 4) = false := by simp [h4]
       have ek5 : (x.kind == 5) = false := by simp [h5]
       have HN45 := Lib.hid (show ¬ (x.kind = 4 ∨ x.kind = 5) from fun h => h.elim h4 h5)
       clear h4 h5
       go_upto_region 38 with (fail)
       clear c0 ek4 ek5
       obtain ⟨⟨p0, p1, p2⟩, -⟩ := three_cells HL.out.d.p6
       obtain ⟨⟨b0, b1, b2⟩, f0, f1, f2⟩ := three_cells HL.out.d.rb
       go_wp2_with fail
       clear p0 p1 p2 b0 b1 b2 f0 f1 f2
       have F := HL.out.d.fin HW.out (.slice (some ⟨G1, 0, none⟩) (K.n + 1) (K.n + 1)) (.slice (some ⟨G2, 0, none⟩) (K.n + 1) (K.n + 1)) (.bool x.emp)
       unfold set3' at F
       obtain ⟨F1, F2, F3, F4, F5⟩ := F
       obtain ⟨⟨e0, e1, e2⟩, -⟩ := three_cells F5
       try simp only [Exit.inBlock, Exit.then]
       refine bodyPost_ret (v := .agg #[.slice (some ⟨G1, 0, none⟩) (K.n + 1) (K.n + 1), .slice (some ⟨G2, 0, none⟩) (K.n + 1) (K.n + 1), .bool x.emp]) (by simp [results, Tryd.results49, go_sem, e0, e1, e2]) rfl ?_
       have hps : x.ps = psL x.kids := by rw [X.ps_eq, if_neg H1.out]
       have hlen := HNK.out
       refine ⟨vl2, G1, G2, rfl, ?_, F2.ext (fun j _ => ?_), F3.ext (fun j _ => ?_), F4⟩
       ·rw [hps]
        refine F1.ext (fun p q _ _ => ?_)
        rw [fol_kids H1.out, hlen]
        exact ⟨fun h => h.elim .inl (fun h => .inr (.inl h)), fun h => h.elim .inl (fun h => h.elim .inr (fun h => absurd h.1 HN45.out))⟩
       ·rw [← fst_Qf H1.out, hlen]
       ·rw [← lst_Ql H1.out, hlen]
end Go.Proofs.YtnccgaanfjaimaaDoor
