/- Texts QE, one behind the other. -/
import Derived.Test.YtnccgaanfjaimaaDoorJ11
set_option linter.unusedSimpArgs false
set_option linter.unusedVariables false
namespace Go.Proofs.YtnccgaanfjaimaaDoor
open Go.ChangeShapes Go.WideShapes Go.ChangeAt Go.RowKit
set_option linter.unusedVariables false
set_option linter.unusedSimpArgs false

attribute [local go_sem] Oper.semAt_some

set_option maxRecDepth 100000 in
set_option maxHeartbeats 8000000 in
theorem of_label {M B : Nat} {w : World} {K : RK} {vl v : Value} {labs : List ByteArray} {P : Nat → Nat → Prop} {x : X} (hx : XV M w v x) (hMB : M ≤ B) (h : RN B w K vl labs P) (hn : K.n ≤ 100000) (hg : x.good) (hs : x.sz ≤ 24) (hl : x.lit) (hfit : labs.length + x.pn ≤ K.n + 1) (h1 : x.kind = 1) :
  Calls Tryd.prog 49 #[.pointer (some ⟨K.R, 0, none⟩), v] w (OfR B w K labs P x) := by
 have H1 := Lib.hid h1
 clear h1
 obtain ⟨kv, rfl, hr⟩ := hx
 obtain ⟨A, c, rfl⟩ := hr.form
 have hBw : B ≤ w.heap.size := Nat.le_trans h.hB (Nat.le_of_lt h.lt)
 obtain ⟨W0, hW0⟩ : ∃ y, (w.alloc (.cells #[.int .i64 x.kind, .string x.lab, .slice A x.kids.length c] 25)).alloc (.cells #[.slice none 0 0, .slice none 0 0, .bool false] 79) = y := ⟨_, rfl⟩
 have hb0 : Below w.heap.size w W0 := by rw [← hW0]; exact ((Below.refl _ w).alloc (Nat.le_refl _) _).alloc (by simp) _
 have hz0 : W0.heap.size = w.heap.size + 2 := by rw [← hW0]; simp
 have hbx : W0.heap[w.heap.size]? = some (.cells #[.int .i64 x.kind, .string x.lab, .slice A x.kids.length c] 25 (0, 0)) := by rw [← hW0, Below.heap_alloc _ _ _ (by simp)]; exact at_push w _
 have hrb : W0.heap[w.heap.size + 1]? = some (.cells #[.slice none 0 0, .slice none 0 0, .bool false] 79 (0, 0)) := by
  rw [← hW0]
  have h1 := at_push (w.alloc (.cells #[.int .i64 x.kind, .string x.lab, .slice A x.kids.length c] 25)) (.cells #[.slice none 0 0, .slice none 0 0, .bool false] 79)
  rwa [World.size_alloc] at h1
 have H := Lib.hid h
 have H0 := Lib.hid (h.bel hb0)
 have HX := Lib.hid (show XV M W0 (.agg #[.int .i64 x.kind, .string x.lab, .slice A x.kids.length c]) x from XV.bel ⟨_, rfl, hr⟩ (hb0.mono (Nat.le_trans hMB hBw)))
 have HG := Lib.hid (And.intro hg (And.intro hs (And.intro hl (And.intro hMB (And.intro hBw hfit)))))
 have HB := Lib.hid (And.intro hb0 (And.intro hz0 (And.intro hbx hrb)))
 obtain ⟨nk, hnk⟩ : ∃ y, x.kids.length = y := ⟨_, rfl⟩
 have HNK := Lib.hid hnk
 have c3 := H0.out.cells.2.2.2.1
 obtain ⟨MM, hMM, hmk⟩ := make_flags K.n hn
 have HMM := Lib.hid hMM
 have HMK := Lib.hid hmk
 rw [hnk] at HX HB hW0 ⊢
 have HEMP := Lib.hid (fun (W : World) (hb : Below W0.heap.size W0 W) => emp_takes hg hs ▸ rempty_any (HX.out.bel (hb.mono (by have := HG.out.2.2.2.1; have := HG.out.2.2.2.2.1; have := HB.out.2.1; omega))) (Nat.le_trans (by have := HG.out.2.2.2.1; have := HG.out.2.2.2.2.1; have := HB.out.2.1; omega) hb.size) (by omega) hl)
 clear h hg hl hMB hBw hb0 hz0 hbx hrb hr hnk hMM hmk hfit
 go_enter Tryd.func49, Tryd.ntmps49
 go_upto_region 1 with (fail)
 try rw [hW0]
 clear hW0
 go_upto_region 2 with (fail)
 clear c3
 have HBX := Lib.hid (fun W (hb : Below W0.heap.size W0 W) => (three_cells ((hb.block _ (by have := HB.out.2.1; omega)).trans HB.out.2.2.1)).1)
 refine Code.wp_mono (Q := fun e a' W' => e = .normal ∧ ∃ g1 g2 g6, a' = { tmps := #[.pointer (some ⟨K.R, 0, none⟩), .agg #[.int .i64 x.kind, .string x.lab, .slice A nk c], undef, .pointer (some ⟨w.heap.size, 0, none⟩), .pointer (some ⟨w.heap.size + 1, 0, none⟩), .int .i64 ((K.n : Int) + 1), .pointer (some ⟨g6, 0, none⟩), undef, undef, undef, undef, undef, undef, undef, undef, undef, undef, .pointer (some ⟨K.R, 0, none⟩), .pointer (some ⟨K.R, 0, none⟩), .pointer (some ⟨K.R, 3, none⟩), .slice (some ⟨K.g, 0, none⟩) (K.n + 1) K.c, .int .i64 ((K.n : Int) + 1), .int .i64 ((K.n : Int) + 1), .slice (some ⟨g1, 0, none⟩) (K.n + 1) (K.n + 1), .int .i64 ((K.n : Int) + 1), .slice (some ⟨g2, 0, none⟩) (K.n + 1) (K.n + 1), .agg #[.int .i64 x.kind, .string x.lab, .slice A nk c], .bool x.emp, .agg #[.slice (some ⟨g1, 0, none⟩) (K.n + 1) (K.n + 1), .slice (some ⟨g2, 0, none⟩) (K.n + 1) (K.n + 1), .bool x.emp], undef, undef, undef, undef, undef, undef, undef, undef, undef, undef, undef, undef, undef, undef, undef, undef, undef, undef, undef, undef, undef, undef, undef, undef, undef, undef, undef, undef, undef, undef, undef, undef, undef, undef, undef, undef, undef, undef, undef, undef, undef, undef, undef, undef, undef, undef, undef, undef, undef, undef, undef, undef, undef, undef, undef, undef, undef, undef, undef, undef, undef, undef, undef, undef, undef, undef, undef, undef, undef, undef, undef, undef, undef, undef, undef, undef, undef, undef, undef, undef, undef, undef, undef, undef, undef, undef, undef, undef, undef, undef, undef, undef, undef, undef, undef, undef, undef, undef, undef, undef, undef, undef, undef, undef, undef, undef, undef, undef, undef, undef, undef, undef, undef, undef, undef, undef, undef, undef, undef, undef, undef, undef, undef, undef, undef, undef, undef, undef, undef, undef, undef, undef, undef, undef, undef, undef, undef, undef, undef, undef, undef, undef, undef, undef, undef, undef, undef, undef, undef, undef, undef, undef, undef, undef, undef, undef, undef, undef, undef, undef, undef, undef], defers := [] } ∧ D2 B w W' K x nk c A vl labs P g1 g2 g6) ?_ ?_
 rotate_left
 ·obtain ⟨D0_, hD0⟩ : ∃ y, W0.drew = y := ⟨_, rfl⟩
  have DD := Lib.hid (show D4 w.heap.size W0 D0_ K.n none none none from ⟨by rw [← hD0]; exact (Below.refl _ _).drew, fun g e => by (cases e), fun g e => by (cases e), fun g e => by (cases e), fun g g' e _ => by (cases e)⟩)
  refine wp_region_noPanic ?_
  refine wp_region_held_drew (S := fun W => W.cell? ⟨w.heap.size, 0, none⟩ = some (.int .i64 x.kind) ∧ W.cell? ⟨w.heap.size, 1, none⟩ = some (.string x.lab) ∧ W.cell? ⟨w.heap.size, 2, none⟩ = some (.slice A nk c)) (by kernel_rfl) (by rw [hD0]; exact HBX.out _ DD.out.bel) (fun hHeld => ?_)
  clear hHeld
  rw [hD0]
  clear hD0
  refine tkI (i := 0) (v := .int .i64 ((K.n : Int) + 1)) rfl ⟨by rfl, ?_⟩ (HBX.out _ DD.out.bel) ?_
  ·intro ww hSw
   obtain ⟨hs0, hs1, hs2⟩ := hSw
   go_simp
  try simp only [Act.put, z1, z2, z3, z4, z5, z6]
  refine tkI (i := 2) (v := .int .i64 ((K.n : Int) + 1)) rfl ⟨by rfl, ?_⟩ (HBX.out _ DD.out.bel) ?_
  ·intro ww hSw
   obtain ⟨hs0, hs1, hs2⟩ := hSw
   go_simp
  try simp only [Act.put, z1, z2, z3, z4, z5, z6]
  refine tkI (i := 4) (v := .agg #[.int .i64 x.kind, .string x.lab, .slice A nk c]) rfl ⟨by rfl, ?_⟩ (HBX.out _ DD.out.bel) ?_
  ·intro ww hSw
   obtain ⟨hs0, hs1, hs2⟩ := hSw
   go_simp
  try simp only [Act.put, z1, z2, z3, z4, z5, z6]
  refine wpAnyH_ready (rs := [1, 3, 5, 7]) (by kernel_rfl) (by simp) ?_
  refine AllReadyH.cons rfl (fun k_ hK => ?_) (AllReadyH.cons rfl (fun k_ hK => ?_) (AllReadyH.cons rfl (fun k_ hK => ?_) (AllReadyH.cons rfl (fun k_ hK => ?_) (AllReadyH.nil))))
  ·have hmk := HMK.out
   go_simp
   have hd := DD.out.a1 (by have := HB.out.2.1; omega) HMM.out
   refine hK.out _ _ (HBX.out _ hd.bel) (fun _ => ?_)
   clear hK hmk
   try simp only [Act.put, z1, z2, z3, z4, z5, z6]
   obtain ⟨g1, hgg⟩ : ∃ y, D0_.heap.size = y := ⟨_, rfl⟩
   obtain ⟨u1_, huu⟩ : ∃ y, D0_.alloc (.cells MM 4) = y := ⟨_, rfl⟩
   rw [hgg, huu] at hd ⊢
   have D1_ := Lib.hid hd
   clear hd hgg huu
   refine wpAnyH_ready (rs := [3, 5, 7]) (by kernel_rfl) (by simp) ?_
   refine AllReadyH.cons rfl (fun k_ hK => ?_) (AllReadyH.cons rfl (fun k_ hK => ?_) (AllReadyH.cons rfl (fun k_ hK => ?_) (AllReadyH.nil)))
   ·have hmk := HMK.out
    go_simp
    have hd := D1_.out.a2 (by have := HB.out.2.1; omega) HMM.out
    refine hK.out _ _ (HBX.out _ hd.bel) (fun _ => ?_)
    clear hK hmk
    try simp only [Act.put, z1, z2, z3, z4, z5, z6]
    obtain ⟨g2, hgg⟩ : ∃ y, u1_.heap.size = y := ⟨_, rfl⟩
    obtain ⟨u2_, huu⟩ : ∃ y, u1_.alloc (.cells MM 4) = y := ⟨_, rfl⟩
    rw [hgg, huu] at hd ⊢
    have D2_ := Lib.hid hd
    clear hd hgg huu
    refine wpAnyH_ready (rs := [5, 7]) (by kernel_rfl) (by simp) ?_
    refine AllReadyH.cons rfl (fun k_ hK => ?_) (AllReadyH.cons rfl (fun k_ hK => ?_) (AllReadyH.nil))
    ·go_simp
     refine (HEMP.out _ D2_.out.bel).mono ?_
     rintro e u3_ ⟨rfl, hb⟩
     have D3_ := Lib.hid (D2_.out.step hb)
     clear hb
     refine hK.out _ _ (HBX.out _ D3_.out.bel) (fun _ => ?_)
     clear hK
     try simp only [Act.put, z1, z2, z3, z4, z5, z6]
     refine tkI (i := 6) (v := .agg #[.slice (some ⟨g1, 0, none⟩) (K.n + 1) (K.n + 1), .slice (some ⟨g2, 0, none⟩) (K.n + 1) (K.n + 1), .bool x.emp]) rfl ⟨by rfl, ?_⟩ (HBX.out _ D3_.out.bel) ?_
     ·intro ww hSw
      obtain ⟨hs0, hs1, hs2⟩ := hSw
      go_simp
     try simp only [Act.put, z1, z2, z3, z4, z5, z6]
     refine wpAnyH_ready (rs := [7]) (by kernel_rfl) (by simp) ?_
     refine AllReadyH.cons rfl (fun k_ hK => ?_) (AllReadyH.nil)
     ·go_simp
      have hd := D3_.out.a6
      refine hK.out _ _ (HBX.out _ hd.bel) (fun _ => ?_)
      clear hK
      try simp only [Act.put, z1, z2, z3, z4, z5, z6]
      obtain ⟨g6, hgg⟩ : ∃ y, u3_.heap.size = y := ⟨_, rfl⟩
      obtain ⟨u4_, huu⟩ : ∃ y, u3_.alloc (.cells #[.slice none 0 0, .slice none 0 0, .bool false] 79) = y := ⟨_, rfl⟩
      rw [hgg, huu] at hd ⊢
      have D4_ := Lib.hid hd
      clear hd hgg huu
      refine wpAnyH_ready (rs := [8]) (by kernel_rfl) (by simp) ?_
      refine AllReadyH.cons rfl (fun k_ hK => ?_) AllReadyH.nil
      obtain ⟨⟨z0, z1, z2⟩, f0, f1, f2⟩ := three_cells (D4_.out.z6 _ rfl).2
      go_simp
      refine hK.out _ _ (HBX.out _ (set3'_below D4_.out.bel (D4_.out.z6 _ rfl).1 (.slice (some ⟨g1, 0, none⟩) (K.n + 1) (K.n + 1)) (.slice (some ⟨g2, 0, none⟩) (K.n + 1) (K.n + 1)) (.bool x.emp))) (fun _ => ?_)
      clear hK z0 z1 z2 f0 f1 f2
      try simp only [Act.put, z1, z2, z3, z4, z5, z6]
      refine ⟨by kernel_rfl, ?_⟩
      refine NoPanic.normal ?_
      exact ⟨rfl, g1, g2, g6, rfl, D4_.out.fin HB.out.1 HB.out.2.1 HB.out.2.2.1 HB.out.2.2.2 H0.out⟩
    ·go_simp
     have hd := D2_.out.a6
     refine hK.out _ _ (HBX.out _ hd.bel) (fun _ => ?_)
     clear hK
     try simp only [Act.put, z1, z2, z3, z4, z5, z6]
     obtain ⟨g6, hgg⟩ : ∃ y, u2_.heap.size = y := ⟨_, rfl⟩
     obtain ⟨u5_, huu⟩ : ∃ y, u2_.alloc (.cells #[.slice none 0 0, .slice none 0 0, .bool false] 79) = y := ⟨_, rfl⟩
     rw [hgg, huu] at hd ⊢
     have D5_ := Lib.hid hd
     clear hd hgg huu
     refine wpAnyH_ready (rs := [5]) (by kernel_rfl) (by simp) ?_
     refine AllReadyH.cons rfl (fun k_ hK => ?_) (AllReadyH.nil)
     ·go_simp
      refine (HEMP.out _ D5_.out.bel).mono ?_
      rintro e u6_ ⟨rfl, hb⟩
      have D6_ := Lib.hid (D5_.out.step hb)
      clear hb
      refine hK.out _ _ (HBX.out _ D6_.out.bel) (fun _ => ?_)
      clear hK
      try simp only [Act.put, z1, z2, z3, z4, z5, z6]
      refine tkI (i := 6) (v := .agg #[.slice (some ⟨g1, 0, none⟩) (K.n + 1) (K.n + 1), .slice (some ⟨g2, 0, none⟩) (K.n + 1) (K.n + 1), .bool x.emp]) rfl ⟨by rfl, ?_⟩ (HBX.out _ D6_.out.bel) ?_
      ·intro ww hSw
       obtain ⟨hs0, hs1, hs2⟩ := hSw
       go_simp
      try simp only [Act.put, z1, z2, z3, z4, z5, z6]
      refine wpAnyH_ready (rs := [8]) (by kernel_rfl) (by simp) ?_
      refine AllReadyH.cons rfl (fun k_ hK => ?_) AllReadyH.nil
      obtain ⟨⟨z0, z1, z2⟩, f0, f1, f2⟩ := three_cells (D6_.out.z6 _ rfl).2
      go_simp
      refine hK.out _ _ (HBX.out _ (set3'_below D6_.out.bel (D6_.out.z6 _ rfl).1 (.slice (some ⟨g1, 0, none⟩) (K.n + 1) (K.n + 1)) (.slice (some ⟨g2, 0, none⟩) (K.n + 1) (K.n + 1)) (.bool x.emp))) (fun _ => ?_)
      clear hK z0 z1 z2 f0 f1 f2
      try simp only [Act.put, z1, z2, z3, z4, z5, z6]
      refine ⟨by kernel_rfl, ?_⟩
      refine NoPanic.normal ?_
      exact ⟨rfl, g1, g2, g6, rfl, D6_.out.fin HB.out.1 HB.out.2.1 HB.out.2.2.1 HB.out.2.2.2 H0.out⟩
   ·go_simp
    refine (HEMP.out _ D1_.out.bel).mono ?_
    rintro e u7_ ⟨rfl, hb⟩
    have D7_ := Lib.hid (D1_.out.step hb)
    clear hb
    refine hK.out _ _ (HBX.out _ D7_.out.bel) (fun _ => ?_)
    clear hK
    try simp only [Act.put, z1, z2, z3, z4, z5, z6]
    refine wpAnyH_ready (rs := [3, 7]) (by kernel_rfl) (by simp) ?_
    refine AllReadyH.cons rfl (fun k_ hK => ?_) (AllReadyH.cons rfl (fun k_ hK => ?_) (AllReadyH.nil))
    ·have hmk := HMK.out
     go_simp
     have hd := D7_.out.a2 (by have := HB.out.2.1; omega) HMM.out
     refine hK.out _ _ (HBX.out _ hd.bel) (fun _ => ?_)
     clear hK hmk
     try simp only [Act.put, z1, z2, z3, z4, z5, z6]
     obtain ⟨g2, hgg⟩ : ∃ y, u7_.heap.size = y := ⟨_, rfl⟩
     obtain ⟨u8_, huu⟩ : ∃ y, u7_.alloc (.cells MM 4) = y := ⟨_, rfl⟩
     rw [hgg, huu] at hd ⊢
     have D8_ := Lib.hid hd
     clear hd hgg huu
     refine tkI (i := 6) (v := .agg #[.slice (some ⟨g1, 0, none⟩) (K.n + 1) (K.n + 1), .slice (some ⟨g2, 0, none⟩) (K.n + 1) (K.n + 1), .bool x.emp]) rfl ⟨by rfl, ?_⟩ (HBX.out _ D8_.out.bel) ?_
     ·intro ww hSw
      obtain ⟨hs0, hs1, hs2⟩ := hSw
      go_simp
     try simp only [Act.put, z1, z2, z3, z4, z5, z6]
     refine wpAnyH_ready (rs := [7]) (by kernel_rfl) (by simp) ?_
     refine AllReadyH.cons rfl (fun k_ hK => ?_) (AllReadyH.nil)
     ·go_simp
      have hd := D8_.out.a6
      refine hK.out _ _ (HBX.out _ hd.bel) (fun _ => ?_)
      clear hK
      try simp only [Act.put, z1, z2, z3, z4, z5, z6]
      obtain ⟨g6, hgg⟩ : ∃ y, u8_.heap.size = y := ⟨_, rfl⟩
      obtain ⟨u9_, huu⟩ : ∃ y, u8_.alloc (.cells #[.slice none 0 0, .slice none 0 0, .bool false] 79) = y := ⟨_, rfl⟩
      rw [hgg, huu] at hd ⊢
      have D9_ := Lib.hid hd
      clear hd hgg huu
      refine wpAnyH_ready (rs := [8]) (by kernel_rfl) (by simp) ?_
      refine AllReadyH.cons rfl (fun k_ hK => ?_) AllReadyH.nil
      obtain ⟨⟨z0, z1, z2⟩, f0, f1, f2⟩ := three_cells (D9_.out.z6 _ rfl).2
      go_simp
      refine hK.out _ _ (HBX.out _ (set3'_below D9_.out.bel (D9_.out.z6 _ rfl).1 (.slice (some ⟨g1, 0, none⟩) (K.n + 1) (K.n + 1)) (.slice (some ⟨g2, 0, none⟩) (K.n + 1) (K.n + 1)) (.bool x.emp))) (fun _ => ?_)
      clear hK z0 z1 z2 f0 f1 f2
      try simp only [Act.put, z1, z2, z3, z4, z5, z6]
      refine ⟨by kernel_rfl, ?_⟩
      refine NoPanic.normal ?_
      exact ⟨rfl, g1, g2, g6, rfl, D9_.out.fin HB.out.1 HB.out.2.1 HB.out.2.2.1 HB.out.2.2.2 H0.out⟩
    ·go_simp
     have hd := D7_.out.a6
     refine hK.out _ _ (HBX.out _ hd.bel) (fun _ => ?_)
     clear hK
     try simp only [Act.put, z1, z2, z3, z4, z5, z6]
     obtain ⟨g6, hgg⟩ : ∃ y, u7_.heap.size = y := ⟨_, rfl⟩
     obtain ⟨u10_, huu⟩ : ∃ y, u7_.alloc (.cells #[.slice none 0 0, .slice none 0 0, .bool false] 79) = y := ⟨_, rfl⟩
     rw [hgg, huu] at hd ⊢
     have D10_ := Lib.hid hd
     clear hd hgg huu
     refine wpAnyH_ready (rs := [3]) (by kernel_rfl) (by simp) ?_
     refine AllReadyH.cons rfl (fun k_ hK => ?_) (AllReadyH.nil)
     ·have hmk := HMK.out
      go_simp
      have hd := D10_.out.a2 (by have := HB.out.2.1; omega) HMM.out
      refine hK.out _ _ (HBX.out _ hd.bel) (fun _ => ?_)
      clear hK hmk
      try simp only [Act.put, z1, z2, z3, z4, z5, z6]
      obtain ⟨g2, hgg⟩ : ∃ y, u10_.heap.size = y := ⟨_, rfl⟩
      obtain ⟨u11_, huu⟩ : ∃ y, u10_.alloc (.cells MM 4) = y := ⟨_, rfl⟩
      rw [hgg, huu] at hd ⊢
      have D11_ := Lib.hid hd
      clear hd hgg huu
      refine tkI (i := 6) (v := .agg #[.slice (some ⟨g1, 0, none⟩) (K.n + 1) (K.n + 1), .slice (some ⟨g2, 0, none⟩) (K.n + 1) (K.n + 1), .bool x.emp]) rfl ⟨by rfl, ?_⟩ (HBX.out _ D11_.out.bel) ?_
      ·intro ww hSw
       obtain ⟨hs0, hs1, hs2⟩ := hSw
       go_simp
      try simp only [Act.put, z1, z2, z3, z4, z5, z6]
      refine wpAnyH_ready (rs := [8]) (by kernel_rfl) (by simp) ?_
      refine AllReadyH.cons rfl (fun k_ hK => ?_) AllReadyH.nil
      obtain ⟨⟨z0, z1, z2⟩, f0, f1, f2⟩ := three_cells (D11_.out.z6 _ rfl).2
      go_simp
      refine hK.out _ _ (HBX.out _ (set3'_below D11_.out.bel (D11_.out.z6 _ rfl).1 (.slice (some ⟨g1, 0, none⟩) (K.n + 1) (K.n + 1)) (.slice (some ⟨g2, 0, none⟩) (K.n + 1) (K.n + 1)) (.bool x.emp))) (fun _ => ?_)
      clear hK z0 z1 z2 f0 f1 f2
      try simp only [Act.put, z1, z2, z3, z4, z5, z6]
      refine ⟨by kernel_rfl, ?_⟩
      refine NoPanic.normal ?_
      exact ⟨rfl, g1, g2, g6, rfl, D11_.out.fin HB.out.1 HB.out.2.1 HB.out.2.2.1 HB.out.2.2.2 H0.out⟩
   ·go_simp
    have hd := D1_.out.a6
    refine hK.out _ _ (HBX.out _ hd.bel) (fun _ => ?_)
    clear hK
    try simp only [Act.put, z1, z2, z3, z4, z5, z6]
    obtain ⟨g6, hgg⟩ : ∃ y, u1_.heap.size = y := ⟨_, rfl⟩
    obtain ⟨u12_, huu⟩ : ∃ y, u1_.alloc (.cells #[.slice none 0 0, .slice none 0 0, .bool false] 79) = y := ⟨_, rfl⟩
    rw [hgg, huu] at hd ⊢
    have D12_ := Lib.hid hd
    clear hd hgg huu
    refine wpAnyH_ready (rs := [3, 5]) (by kernel_rfl) (by simp) ?_
    refine AllReadyH.cons rfl (fun k_ hK => ?_) (AllReadyH.cons rfl (fun k_ hK => ?_) (AllReadyH.nil))
    ·have hmk := HMK.out
     go_simp
     have hd := D12_.out.a2 (by have := HB.out.2.1; omega) HMM.out
     refine hK.out _ _ (HBX.out _ hd.bel) (fun _ => ?_)
     clear hK hmk
     try simp only [Act.put, z1, z2, z3, z4, z5, z6]
     obtain ⟨g2, hgg⟩ : ∃ y, u12_.heap.size = y := ⟨_, rfl⟩
     obtain ⟨u13_, huu⟩ : ∃ y, u12_.alloc (.cells MM 4) = y := ⟨_, rfl⟩
     rw [hgg, huu] at hd ⊢
     have D13_ := Lib.hid hd
     clear hd hgg huu
     refine wpAnyH_ready (rs := [5]) (by kernel_rfl) (by simp) ?_
     refine AllReadyH.cons rfl (fun k_ hK => ?_) (AllReadyH.nil)
     ·go_simp
      refine (HEMP.out _ D13_.out.bel).mono ?_
      rintro e u14_ ⟨rfl, hb⟩
      have D14_ := Lib.hid (D13_.out.step hb)
      clear hb
      refine hK.out _ _ (HBX.out _ D14_.out.bel) (fun _ => ?_)
      clear hK
      try simp only [Act.put, z1, z2, z3, z4, z5, z6]
      refine tkI (i := 6) (v := .agg #[.slice (some ⟨g1, 0, none⟩) (K.n + 1) (K.n + 1), .slice (some ⟨g2, 0, none⟩) (K.n + 1) (K.n + 1), .bool x.emp]) rfl ⟨by rfl, ?_⟩ (HBX.out _ D14_.out.bel) ?_
      ·intro ww hSw
       obtain ⟨hs0, hs1, hs2⟩ := hSw
       go_simp
      try simp only [Act.put, z1, z2, z3, z4, z5, z6]
      refine wpAnyH_ready (rs := [8]) (by kernel_rfl) (by simp) ?_
      refine AllReadyH.cons rfl (fun k_ hK => ?_) AllReadyH.nil
      obtain ⟨⟨z0, z1, z2⟩, f0, f1, f2⟩ := three_cells (D14_.out.z6 _ rfl).2
      go_simp
      refine hK.out _ _ (HBX.out _ (set3'_below D14_.out.bel (D14_.out.z6 _ rfl).1 (.slice (some ⟨g1, 0, none⟩) (K.n + 1) (K.n + 1)) (.slice (some ⟨g2, 0, none⟩) (K.n + 1) (K.n + 1)) (.bool x.emp))) (fun _ => ?_)
      clear hK z0 z1 z2 f0 f1 f2
      try simp only [Act.put, z1, z2, z3, z4, z5, z6]
      refine ⟨by kernel_rfl, ?_⟩
      refine NoPanic.normal ?_
      exact ⟨rfl, g1, g2, g6, rfl, D14_.out.fin HB.out.1 HB.out.2.1 HB.out.2.2.1 HB.out.2.2.2 H0.out⟩
    ·go_simp
     refine (HEMP.out _ D12_.out.bel).mono ?_
     rintro e u15_ ⟨rfl, hb⟩
     have D15_ := Lib.hid (D12_.out.step hb)
     clear hb
     refine hK.out _ _ (HBX.out _ D15_.out.bel) (fun _ => ?_)
     clear hK
     try simp only [Act.put, z1, z2, z3, z4, z5, z6]
     refine wpAnyH_ready (rs := [3]) (by kernel_rfl) (by simp) ?_
     refine AllReadyH.cons rfl (fun k_ hK => ?_) (AllReadyH.nil)
     ·have hmk := HMK.out
      go_simp
      have hd := D15_.out.a2 (by have := HB.out.2.1; omega) HMM.out
      refine hK.out _ _ (HBX.out _ hd.bel) (fun _ => ?_)
      clear hK hmk
      try simp only [Act.put, z1, z2, z3, z4, z5, z6]
      obtain ⟨g2, hgg⟩ : ∃ y, u15_.heap.size = y := ⟨_, rfl⟩
      obtain ⟨u16_, huu⟩ : ∃ y, u15_.alloc (.cells MM 4) = y := ⟨_, rfl⟩
      rw [hgg, huu] at hd ⊢
      have D16_ := Lib.hid hd
      clear hd hgg huu
      refine tkI (i := 6) (v := .agg #[.slice (some ⟨g1, 0, none⟩) (K.n + 1) (K.n + 1), .slice (some ⟨g2, 0, none⟩) (K.n + 1) (K.n + 1), .bool x.emp]) rfl ⟨by rfl, ?_⟩ (HBX.out _ D16_.out.bel) ?_
      ·intro ww hSw
       obtain ⟨hs0, hs1, hs2⟩ := hSw
       go_simp
      try simp only [Act.put, z1, z2, z3, z4, z5, z6]
      refine wpAnyH_ready (rs := [8]) (by kernel_rfl) (by simp) ?_
      refine AllReadyH.cons rfl (fun k_ hK => ?_) AllReadyH.nil
      obtain ⟨⟨z0, z1, z2⟩, f0, f1, f2⟩ := three_cells (D16_.out.z6 _ rfl).2
      go_simp
      refine hK.out _ _ (HBX.out _ (set3'_below D16_.out.bel (D16_.out.z6 _ rfl).1 (.slice (some ⟨g1, 0, none⟩) (K.n + 1) (K.n + 1)) (.slice (some ⟨g2, 0, none⟩) (K.n + 1) (K.n + 1)) (.bool x.emp))) (fun _ => ?_)
      clear hK z0 z1 z2 f0 f1 f2
      try simp only [Act.put, z1, z2, z3, z4, z5, z6]
      refine ⟨by kernel_rfl, ?_⟩
      refine NoPanic.normal ?_
      exact ⟨rfl, g1, g2, g6, rfl, D16_.out.fin HB.out.1 HB.out.2.1 HB.out.2.2.1 HB.out.2.2.2 H0.out⟩
  ·have hmk := HMK.out
   go_simp
   have hd := DD.out.a2 (by have := HB.out.2.1; omega) HMM.out
   refine hK.out _ _ (HBX.out _ hd.bel) (fun _ => ?_)
   clear hK hmk
   try simp only [Act.put, z1, z2, z3, z4, z5, z6]
   obtain ⟨g2, hgg⟩ : ∃ y, D0_.heap.size = y := ⟨_, rfl⟩
   obtain ⟨u17_, huu⟩ : ∃ y, D0_.alloc (.cells MM 4) = y := ⟨_, rfl⟩
   rw [hgg, huu] at hd ⊢
   have D17_ := Lib.hid hd
   clear hd hgg huu
   refine wpAnyH_ready (rs := [1, 5, 7]) (by kernel_rfl) (by simp) ?_
   refine AllReadyH.cons rfl (fun k_ hK => ?_) (AllReadyH.cons rfl (fun k_ hK => ?_) (AllReadyH.cons rfl (fun k_ hK => ?_) (AllReadyH.nil)))
   ·have hmk := HMK.out
    go_simp
    have hd := D17_.out.a1 (by have := HB.out.2.1; omega) HMM.out
    refine hK.out _ _ (HBX.out _ hd.bel) (fun _ => ?_)
    clear hK hmk
    try simp only [Act.put, z1, z2, z3, z4, z5, z6]
    obtain ⟨g1, hgg⟩ : ∃ y, u17_.heap.size = y := ⟨_, rfl⟩
    obtain ⟨u18_, huu⟩ : ∃ y, u17_.alloc (.cells MM 4) = y := ⟨_, rfl⟩
    rw [hgg, huu] at hd ⊢
    have D18_ := Lib.hid hd
    clear hd hgg huu
    refine wpAnyH_ready (rs := [5, 7]) (by kernel_rfl) (by simp) ?_
    refine AllReadyH.cons rfl (fun k_ hK => ?_) (AllReadyH.cons rfl (fun k_ hK => ?_) (AllReadyH.nil))
    ·go_simp
     refine (HEMP.out _ D18_.out.bel).mono ?_
     rintro e u19_ ⟨rfl, hb⟩
     have D19_ := Lib.hid (D18_.out.step hb)
     clear hb
     refine hK.out _ _ (HBX.out _ D19_.out.bel) (fun _ => ?_)
     clear hK
     try simp only [Act.put, z1, z2, z3, z4, z5, z6]
     refine tkI (i := 6) (v := .agg #[.slice (some ⟨g1, 0, none⟩) (K.n + 1) (K.n + 1), .slice (some ⟨g2, 0, none⟩) (K.n + 1) (K.n + 1), .bool x.emp]) rfl ⟨by rfl, ?_⟩ (HBX.out _ D19_.out.bel) ?_
     ·intro ww hSw
      obtain ⟨hs0, hs1, hs2⟩ := hSw
      go_simp
     try simp only [Act.put, z1, z2, z3, z4, z5, z6]
     refine wpAnyH_ready (rs := [7]) (by kernel_rfl) (by simp) ?_
     refine AllReadyH.cons rfl (fun k_ hK => ?_) (AllReadyH.nil)
     ·go_simp
      have hd := D19_.out.a6
      refine hK.out _ _ (HBX.out _ hd.bel) (fun _ => ?_)
      clear hK
      try simp only [Act.put, z1, z2, z3, z4, z5, z6]
      obtain ⟨g6, hgg⟩ : ∃ y, u19_.heap.size = y := ⟨_, rfl⟩
      obtain ⟨u20_, huu⟩ : ∃ y, u19_.alloc (.cells #[.slice none 0 0, .slice none 0 0, .bool false] 79) = y := ⟨_, rfl⟩
      rw [hgg, huu] at hd ⊢
      have D20_ := Lib.hid hd
      clear hd hgg huu
      refine wpAnyH_ready (rs := [8]) (by kernel_rfl) (by simp) ?_
      refine AllReadyH.cons rfl (fun k_ hK => ?_) AllReadyH.nil
      obtain ⟨⟨z0, z1, z2⟩, f0, f1, f2⟩ := three_cells (D20_.out.z6 _ rfl).2
      go_simp
      refine hK.out _ _ (HBX.out _ (set3'_below D20_.out.bel (D20_.out.z6 _ rfl).1 (.slice (some ⟨g1, 0, none⟩) (K.n + 1) (K.n + 1)) (.slice (some ⟨g2, 0, none⟩) (K.n + 1) (K.n + 1)) (.bool x.emp))) (fun _ => ?_)
      clear hK z0 z1 z2 f0 f1 f2
      try simp only [Act.put, z1, z2, z3, z4, z5, z6]
      refine ⟨by kernel_rfl, ?_⟩
      refine NoPanic.normal ?_
      exact ⟨rfl, g1, g2, g6, rfl, D20_.out.fin HB.out.1 HB.out.2.1 HB.out.2.2.1 HB.out.2.2.2 H0.out⟩
    ·go_simp
     have hd := D18_.out.a6
     refine hK.out _ _ (HBX.out _ hd.bel) (fun _ => ?_)
     clear hK
     try simp only [Act.put, z1, z2, z3, z4, z5, z6]
     obtain ⟨g6, hgg⟩ : ∃ y, u18_.heap.size = y := ⟨_, rfl⟩
     obtain ⟨u21_, huu⟩ : ∃ y, u18_.alloc (.cells #[.slice none 0 0, .slice none 0 0, .bool false] 79) = y := ⟨_, rfl⟩
     rw [hgg, huu] at hd ⊢
     have D21_ := Lib.hid hd
     clear hd hgg huu
     refine wpAnyH_ready (rs := [5]) (by kernel_rfl) (by simp) ?_
     refine AllReadyH.cons rfl (fun k_ hK => ?_) (AllReadyH.nil)
     ·go_simp
      refine (HEMP.out _ D21_.out.bel).mono ?_
      rintro e u22_ ⟨rfl, hb⟩
      have D22_ := Lib.hid (D21_.out.step hb)
      clear hb
      refine hK.out _ _ (HBX.out _ D22_.out.bel) (fun _ => ?_)
      clear hK
      try simp only [Act.put, z1, z2, z3, z4, z5, z6]
      refine tkI (i := 6) (v := .agg #[.slice (some ⟨g1, 0, none⟩) (K.n + 1) (K.n + 1), .slice (some ⟨g2, 0, none⟩) (K.n + 1) (K.n + 1), .bool x.emp]) rfl ⟨by rfl, ?_⟩ (HBX.out _ D22_.out.bel) ?_
      ·intro ww hSw
       obtain ⟨hs0, hs1, hs2⟩ := hSw
       go_simp
      try simp only [Act.put, z1, z2, z3, z4, z5, z6]
      refine wpAnyH_ready (rs := [8]) (by kernel_rfl) (by simp) ?_
      refine AllReadyH.cons rfl (fun k_ hK => ?_) AllReadyH.nil
      obtain ⟨⟨z0, z1, z2⟩, f0, f1, f2⟩ := three_cells (D22_.out.z6 _ rfl).2
      go_simp
      refine hK.out _ _ (HBX.out _ (set3'_below D22_.out.bel (D22_.out.z6 _ rfl).1 (.slice (some ⟨g1, 0, none⟩) (K.n + 1) (K.n + 1)) (.slice (some ⟨g2, 0, none⟩) (K.n + 1) (K.n + 1)) (.bool x.emp))) (fun _ => ?_)
      clear hK z0 z1 z2 f0 f1 f2
      try simp only [Act.put, z1, z2, z3, z4, z5, z6]
      refine ⟨by kernel_rfl, ?_⟩
      refine NoPanic.normal ?_
      exact ⟨rfl, g1, g2, g6, rfl, D22_.out.fin HB.out.1 HB.out.2.1 HB.out.2.2.1 HB.out.2.2.2 H0.out⟩
   ·go_simp
    refine (HEMP.out _ D17_.out.bel).mono ?_
    rintro e u23_ ⟨rfl, hb⟩
    have D23_ := Lib.hid (D17_.out.step hb)
    clear hb
    refine hK.out _ _ (HBX.out _ D23_.out.bel) (fun _ => ?_)
    clear hK
    try simp only [Act.put, z1, z2, z3, z4, z5, z6]
    refine wpAnyH_ready (rs := [1, 7]) (by kernel_rfl) (by simp) ?_
    refine AllReadyH.cons rfl (fun k_ hK => ?_) (AllReadyH.cons rfl (fun k_ hK => ?_) (AllReadyH.nil))
    ·have hmk := HMK.out
     go_simp
     have hd := D23_.out.a1 (by have := HB.out.2.1; omega) HMM.out
     refine hK.out _ _ (HBX.out _ hd.bel) (fun _ => ?_)
     clear hK hmk
     try simp only [Act.put, z1, z2, z3, z4, z5, z6]
     obtain ⟨g1, hgg⟩ : ∃ y, u23_.heap.size = y := ⟨_, rfl⟩
     obtain ⟨u24_, huu⟩ : ∃ y, u23_.alloc (.cells MM 4) = y := ⟨_, rfl⟩
     rw [hgg, huu] at hd ⊢
     have D24_ := Lib.hid hd
     clear hd hgg huu
     refine tkI (i := 6) (v := .agg #[.slice (some ⟨g1, 0, none⟩) (K.n + 1) (K.n + 1), .slice (some ⟨g2, 0, none⟩) (K.n + 1) (K.n + 1), .bool x.emp]) rfl ⟨by rfl, ?_⟩ (HBX.out _ D24_.out.bel) ?_
     ·intro ww hSw
      obtain ⟨hs0, hs1, hs2⟩ := hSw
      go_simp
     try simp only [Act.put, z1, z2, z3, z4, z5, z6]
     refine wpAnyH_ready (rs := [7]) (by kernel_rfl) (by simp) ?_
     refine AllReadyH.cons rfl (fun k_ hK => ?_) (AllReadyH.nil)
     ·go_simp
      have hd := D24_.out.a6
      refine hK.out _ _ (HBX.out _ hd.bel) (fun _ => ?_)
      clear hK
      try simp only [Act.put, z1, z2, z3, z4, z5, z6]
      obtain ⟨g6, hgg⟩ : ∃ y, u24_.heap.size = y := ⟨_, rfl⟩
      obtain ⟨u25_, huu⟩ : ∃ y, u24_.alloc (.cells #[.slice none 0 0, .slice none 0 0, .bool false] 79) = y := ⟨_, rfl⟩
      rw [hgg, huu] at hd ⊢
      have D25_ := Lib.hid hd
      clear hd hgg huu
      refine wpAnyH_ready (rs := [8]) (by kernel_rfl) (by simp) ?_
      refine AllReadyH.cons rfl (fun k_ hK => ?_) AllReadyH.nil
      obtain ⟨⟨z0, z1, z2⟩, f0, f1, f2⟩ := three_cells (D25_.out.z6 _ rfl).2
      go_simp
      refine hK.out _ _ (HBX.out _ (set3'_below D25_.out.bel (D25_.out.z6 _ rfl).1 (.slice (some ⟨g1, 0, none⟩) (K.n + 1) (K.n + 1)) (.slice (some ⟨g2, 0, none⟩) (K.n + 1) (K.n + 1)) (.bool x.emp))) (fun _ => ?_)
      clear hK z0 z1 z2 f0 f1 f2
      try simp only [Act.put, z1, z2, z3, z4, z5, z6]
      refine ⟨by kernel_rfl, ?_⟩
      refine NoPanic.normal ?_
      exact ⟨rfl, g1, g2, g6, rfl, D25_.out.fin HB.out.1 HB.out.2.1 HB.out.2.2.1 HB.out.2.2.2 H0.out⟩
    ·go_simp
     have hd := D23_.out.a6
     refine hK.out _ _ (HBX.out _ hd.bel) (fun _ => ?_)
     clear hK
     try simp only [Act.put, z1, z2, z3, z4, z5, z6]
     obtain ⟨g6, hgg⟩ : ∃ y, u23_.heap.size = y := ⟨_, rfl⟩
     obtain ⟨u26_, huu⟩ : ∃ y, u23_.alloc (.cells #[.slice none 0 0, .slice none 0 0, .bool false] 79) = y := ⟨_, rfl⟩
     rw [hgg, huu] at hd ⊢
     have D26_ := Lib.hid hd
     clear hd hgg huu
     refine wpAnyH_ready (rs := [1]) (by kernel_rfl) (by simp) ?_
     refine AllReadyH.cons rfl (fun k_ hK => ?_) (AllReadyH.nil)
     ·have hmk := HMK.out
      go_simp
      have hd := D26_.out.a1 (by have := HB.out.2.1; omega) HMM.out
      refine hK.out _ _ (HBX.out _ hd.bel) (fun _ => ?_)
      clear hK hmk
      try simp only [Act.put, z1, z2, z3, z4, z5, z6]
      obtain ⟨g1, hgg⟩ : ∃ y, u26_.heap.size = y := ⟨_, rfl⟩
      obtain ⟨u27_, huu⟩ : ∃ y, u26_.alloc (.cells MM 4) = y := ⟨_, rfl⟩
      rw [hgg, huu] at hd ⊢
      have D27_ := Lib.hid hd
      clear hd hgg huu
      refine tkI (i := 6) (v := .agg #[.slice (some ⟨g1, 0, none⟩) (K.n + 1) (K.n + 1), .slice (some ⟨g2, 0, none⟩) (K.n + 1) (K.n + 1), .bool x.emp]) rfl ⟨by rfl, ?_⟩ (HBX.out _ D27_.out.bel) ?_
      ·intro ww hSw
       obtain ⟨hs0, hs1, hs2⟩ := hSw
       go_simp
      try simp only [Act.put, z1, z2, z3, z4, z5, z6]
      refine wpAnyH_ready (rs := [8]) (by kernel_rfl) (by simp) ?_
      refine AllReadyH.cons rfl (fun k_ hK => ?_) AllReadyH.nil
      obtain ⟨⟨z0, z1, z2⟩, f0, f1, f2⟩ := three_cells (D27_.out.z6 _ rfl).2
      go_simp
      refine hK.out _ _ (HBX.out _ (set3'_below D27_.out.bel (D27_.out.z6 _ rfl).1 (.slice (some ⟨g1, 0, none⟩) (K.n + 1) (K.n + 1)) (.slice (some ⟨g2, 0, none⟩) (K.n + 1) (K.n + 1)) (.bool x.emp))) (fun _ => ?_)
      clear hK z0 z1 z2 f0 f1 f2
      try simp only [Act.put, z1, z2, z3, z4, z5, z6]
      refine ⟨by kernel_rfl, ?_⟩
      refine NoPanic.normal ?_
      exact ⟨rfl, g1, g2, g6, rfl, D27_.out.fin HB.out.1 HB.out.2.1 HB.out.2.2.1 HB.out.2.2.2 H0.out⟩
   ·go_simp
    have hd := D17_.out.a6
    refine hK.out _ _ (HBX.out _ hd.bel) (fun _ => ?_)
    clear hK
    try simp only [Act.put, z1, z2, z3, z4, z5, z6]
    obtain ⟨g6, hgg⟩ : ∃ y, u17_.heap.size = y := ⟨_, rfl⟩
    obtain ⟨u28_, huu⟩ : ∃ y, u17_.alloc (.cells #[.slice none 0 0, .slice none 0 0, .bool false] 79) = y := ⟨_, rfl⟩
    rw [hgg, huu] at hd ⊢
    have D28_ := Lib.hid hd
    clear hd hgg huu
    refine wpAnyH_ready (rs := [1, 5]) (by kernel_rfl) (by simp) ?_
    refine AllReadyH.cons rfl (fun k_ hK => ?_) (AllReadyH.cons rfl (fun k_ hK => ?_) (AllReadyH.nil))
    ·have hmk := HMK.out
     go_simp
     have hd := D28_.out.a1 (by have := HB.out.2.1; omega) HMM.out
     refine hK.out _ _ (HBX.out _ hd.bel) (fun _ => ?_)
     clear hK hmk
     try simp only [Act.put, z1, z2, z3, z4, z5, z6]
     obtain ⟨g1, hgg⟩ : ∃ y, u28_.heap.size = y := ⟨_, rfl⟩
     obtain ⟨u29_, huu⟩ : ∃ y, u28_.alloc (.cells MM 4) = y := ⟨_, rfl⟩
     rw [hgg, huu] at hd ⊢
     have D29_ := Lib.hid hd
     clear hd hgg huu
     refine wpAnyH_ready (rs := [5]) (by kernel_rfl) (by simp) ?_
     refine AllReadyH.cons rfl (fun k_ hK => ?_) (AllReadyH.nil)
     ·go_simp
      refine (HEMP.out _ D29_.out.bel).mono ?_
      rintro e u30_ ⟨rfl, hb⟩
      have D30_ := Lib.hid (D29_.out.step hb)
      clear hb
      refine hK.out _ _ (HBX.out _ D30_.out.bel) (fun _ => ?_)
      clear hK
      try simp only [Act.put, z1, z2, z3, z4, z5, z6]
      refine tkI (i := 6) (v := .agg #[.slice (some ⟨g1, 0, none⟩) (K.n + 1) (K.n + 1), .slice (some ⟨g2, 0, none⟩) (K.n + 1) (K.n + 1), .bool x.emp]) rfl ⟨by rfl, ?_⟩ (HBX.out _ D30_.out.bel) ?_
      ·intro ww hSw
       obtain ⟨hs0, hs1, hs2⟩ := hSw
       go_simp
      try simp only [Act.put, z1, z2, z3, z4, z5, z6]
      refine wpAnyH_ready (rs := [8]) (by kernel_rfl) (by simp) ?_
      refine AllReadyH.cons rfl (fun k_ hK => ?_) AllReadyH.nil
      obtain ⟨⟨z0, z1, z2⟩, f0, f1, f2⟩ := three_cells (D30_.out.z6 _ rfl).2
      go_simp
      refine hK.out _ _ (HBX.out _ (set3'_below D30_.out.bel (D30_.out.z6 _ rfl).1 (.slice (some ⟨g1, 0, none⟩) (K.n + 1) (K.n + 1)) (.slice (some ⟨g2, 0, none⟩) (K.n + 1) (K.n + 1)) (.bool x.emp))) (fun _ => ?_)
      clear hK z0 z1 z2 f0 f1 f2
      try simp only [Act.put, z1, z2, z3, z4, z5, z6]
      refine ⟨by kernel_rfl, ?_⟩
      refine NoPanic.normal ?_
      exact ⟨rfl, g1, g2, g6, rfl, D30_.out.fin HB.out.1 HB.out.2.1 HB.out.2.2.1 HB.out.2.2.2 H0.out⟩
    ·go_simp
     refine (HEMP.out _ D28_.out.bel).mono ?_
     rintro e u31_ ⟨rfl, hb⟩
     have D31_ := Lib.hid (D28_.out.step hb)
     clear hb
     refine hK.out _ _ (HBX.out _ D31_.out.bel) (fun _ => ?_)
     clear hK
     try simp only [Act.put, z1, z2, z3, z4, z5, z6]
     refine wpAnyH_ready (rs := [1]) (by kernel_rfl) (by simp) ?_
     refine AllReadyH.cons rfl (fun k_ hK => ?_) (AllReadyH.nil)
     ·have hmk := HMK.out
      go_simp
      have hd := D31_.out.a1 (by have := HB.out.2.1; omega) HMM.out
      refine hK.out _ _ (HBX.out _ hd.bel) (fun _ => ?_)
      clear hK hmk
      try simp only [Act.put, z1, z2, z3, z4, z5, z6]
      obtain ⟨g1, hgg⟩ : ∃ y, u31_.heap.size = y := ⟨_, rfl⟩
      obtain ⟨u32_, huu⟩ : ∃ y, u31_.alloc (.cells MM 4) = y := ⟨_, rfl⟩
      rw [hgg, huu] at hd ⊢
      have D32_ := Lib.hid hd
      clear hd hgg huu
      refine tkI (i := 6) (v := .agg #[.slice (some ⟨g1, 0, none⟩) (K.n + 1) (K.n + 1), .slice (some ⟨g2, 0, none⟩) (K.n + 1) (K.n + 1), .bool x.emp]) rfl ⟨by rfl, ?_⟩ (HBX.out _ D32_.out.bel) ?_
      ·intro ww hSw
       obtain ⟨hs0, hs1, hs2⟩ := hSw
       go_simp
      try simp only [Act.put, z1, z2, z3, z4, z5, z6]
      refine wpAnyH_ready (rs := [8]) (by kernel_rfl) (by simp) ?_
      refine AllReadyH.cons rfl (fun k_ hK => ?_) AllReadyH.nil
      obtain ⟨⟨z0, z1, z2⟩, f0, f1, f2⟩ := three_cells (D32_.out.z6 _ rfl).2
      go_simp
      refine hK.out _ _ (HBX.out _ (set3'_below D32_.out.bel (D32_.out.z6 _ rfl).1 (.slice (some ⟨g1, 0, none⟩) (K.n + 1) (K.n + 1)) (.slice (some ⟨g2, 0, none⟩) (K.n + 1) (K.n + 1)) (.bool x.emp))) (fun _ => ?_)
      clear hK z0 z1 z2 f0 f1 f2
      try simp only [Act.put, z1, z2, z3, z4, z5, z6]
      refine ⟨by kernel_rfl, ?_⟩
      refine NoPanic.normal ?_
      exact ⟨rfl, g1, g2, g6, rfl, D32_.out.fin HB.out.1 HB.out.2.1 HB.out.2.2.1 HB.out.2.2.2 H0.out⟩
  ·go_simp
   refine (HEMP.out _ DD.out.bel).mono ?_
   rintro e u33_ ⟨rfl, hb⟩
   have D33_ := Lib.hid (DD.out.step hb)
   clear hb
   refine hK.out _ _ (HBX.out _ D33_.out.bel) (fun _ => ?_)
   clear hK
   try simp only [Act.put, z1, z2, z3, z4, z5, z6]
   refine wpAnyH_ready (rs := [1, 3, 7]) (by kernel_rfl) (by simp) ?_
   refine AllReadyH.cons rfl (fun k_ hK => ?_) (AllReadyH.cons rfl (fun k_ hK => ?_) (AllReadyH.cons rfl (fun k_ hK => ?_) (AllReadyH.nil)))
   ·have hmk := HMK.out
    go_simp
    have hd := D33_.out.a1 (by have := HB.out.2.1; omega) HMM.out
    refine hK.out _ _ (HBX.out _ hd.bel) (fun _ => ?_)
    clear hK hmk
    try simp only [Act.put, z1, z2, z3, z4, z5, z6]
    obtain ⟨g1, hgg⟩ : ∃ y, u33_.heap.size = y := ⟨_, rfl⟩
    obtain ⟨u34_, huu⟩ : ∃ y, u33_.alloc (.cells MM 4) = y := ⟨_, rfl⟩
    rw [hgg, huu] at hd ⊢
    have D34_ := Lib.hid hd
    clear hd hgg huu
    refine wpAnyH_ready (rs := [3, 7]) (by kernel_rfl) (by simp) ?_
    refine AllReadyH.cons rfl (fun k_ hK => ?_) (AllReadyH.cons rfl (fun k_ hK => ?_) (AllReadyH.nil))
    ·have hmk := HMK.out
     go_simp
     have hd := D34_.out.a2 (by have := HB.out.2.1; omega) HMM.out
     refine hK.out _ _ (HBX.out _ hd.bel) (fun _ => ?_)
     clear hK hmk
     try simp only [Act.put, z1, z2, z3, z4, z5, z6]
     obtain ⟨g2, hgg⟩ : ∃ y, u34_.heap.size = y := ⟨_, rfl⟩
     obtain ⟨u35_, huu⟩ : ∃ y, u34_.alloc (.cells MM 4) = y := ⟨_, rfl⟩
     rw [hgg, huu] at hd ⊢
     have D35_ := Lib.hid hd
     clear hd hgg huu
     refine tkI (i := 6) (v := .agg #[.slice (some ⟨g1, 0, none⟩) (K.n + 1) (K.n + 1), .slice (some ⟨g2, 0, none⟩) (K.n + 1) (K.n + 1), .bool x.emp]) rfl ⟨by rfl, ?_⟩ (HBX.out _ D35_.out.bel) ?_
     ·intro ww hSw
      obtain ⟨hs0, hs1, hs2⟩ := hSw
      go_simp
     try simp only [Act.put, z1, z2, z3, z4, z5, z6]
     refine wpAnyH_ready (rs := [7]) (by kernel_rfl) (by simp) ?_
     refine AllReadyH.cons rfl (fun k_ hK => ?_) (AllReadyH.nil)
     ·go_simp
      have hd := D35_.out.a6
      refine hK.out _ _ (HBX.out _ hd.bel) (fun _ => ?_)
      clear hK
      try simp only [Act.put, z1, z2, z3, z4, z5, z6]
      obtain ⟨g6, hgg⟩ : ∃ y, u35_.heap.size = y := ⟨_, rfl⟩
      obtain ⟨u36_, huu⟩ : ∃ y, u35_.alloc (.cells #[.slice none 0 0, .slice none 0 0, .bool false] 79) = y := ⟨_, rfl⟩
      rw [hgg, huu] at hd ⊢
      have D36_ := Lib.hid hd
      clear hd hgg huu
      refine wpAnyH_ready (rs := [8]) (by kernel_rfl) (by simp) ?_
      refine AllReadyH.cons rfl (fun k_ hK => ?_) AllReadyH.nil
      obtain ⟨⟨z0, z1, z2⟩, f0, f1, f2⟩ := three_cells (D36_.out.z6 _ rfl).2
      go_simp
      refine hK.out _ _ (HBX.out _ (set3'_below D36_.out.bel (D36_.out.z6 _ rfl).1 (.slice (some ⟨g1, 0, none⟩) (K.n + 1) (K.n + 1)) (.slice (some ⟨g2, 0, none⟩) (K.n + 1) (K.n + 1)) (.bool x.emp))) (fun _ => ?_)
      clear hK z0 z1 z2 f0 f1 f2
      try simp only [Act.put, z1, z2, z3, z4, z5, z6]
      refine ⟨by kernel_rfl, ?_⟩
      refine NoPanic.normal ?_
      exact ⟨rfl, g1, g2, g6, rfl, D36_.out.fin HB.out.1 HB.out.2.1 HB.out.2.2.1 HB.out.2.2.2 H0.out⟩
    ·go_simp
     have hd := D34_.out.a6
     refine hK.out _ _ (HBX.out _ hd.bel) (fun _ => ?_)
     clear hK
     try simp only [Act.put, z1, z2, z3, z4, z5, z6]
     obtain ⟨g6, hgg⟩ : ∃ y, u34_.heap.size = y := ⟨_, rfl⟩
     obtain ⟨u37_, huu⟩ : ∃ y, u34_.alloc (.cells #[.slice none 0 0, .slice none 0 0, .bool false] 79) = y := ⟨_, rfl⟩
     rw [hgg, huu] at hd ⊢
     have D37_ := Lib.hid hd
     clear hd hgg huu
     refine wpAnyH_ready (rs := [3]) (by kernel_rfl) (by simp) ?_
     refine AllReadyH.cons rfl (fun k_ hK => ?_) (AllReadyH.nil)
     ·have hmk := HMK.out
      go_simp
      have hd := D37_.out.a2 (by have := HB.out.2.1; omega) HMM.out
      refine hK.out _ _ (HBX.out _ hd.bel) (fun _ => ?_)
      clear hK hmk
      try simp only [Act.put, z1, z2, z3, z4, z5, z6]
      obtain ⟨g2, hgg⟩ : ∃ y, u37_.heap.size = y := ⟨_, rfl⟩
      obtain ⟨u38_, huu⟩ : ∃ y, u37_.alloc (.cells MM 4) = y := ⟨_, rfl⟩
      rw [hgg, huu] at hd ⊢
      have D38_ := Lib.hid hd
      clear hd hgg huu
      refine tkI (i := 6) (v := .agg #[.slice (some ⟨g1, 0, none⟩) (K.n + 1) (K.n + 1), .slice (some ⟨g2, 0, none⟩) (K.n + 1) (K.n + 1), .bool x.emp]) rfl ⟨by rfl, ?_⟩ (HBX.out _ D38_.out.bel) ?_
      ·intro ww hSw
       obtain ⟨hs0, hs1, hs2⟩ := hSw
       go_simp
      try simp only [Act.put, z1, z2, z3, z4, z5, z6]
      refine wpAnyH_ready (rs := [8]) (by kernel_rfl) (by simp) ?_
      refine AllReadyH.cons rfl (fun k_ hK => ?_) AllReadyH.nil
      obtain ⟨⟨z0, z1, z2⟩, f0, f1, f2⟩ := three_cells (D38_.out.z6 _ rfl).2
      go_simp
      refine hK.out _ _ (HBX.out _ (set3'_below D38_.out.bel (D38_.out.z6 _ rfl).1 (.slice (some ⟨g1, 0, none⟩) (K.n + 1) (K.n + 1)) (.slice (some ⟨g2, 0, none⟩) (K.n + 1) (K.n + 1)) (.bool x.emp))) (fun _ => ?_)
      clear hK z0 z1 z2 f0 f1 f2
      try simp only [Act.put, z1, z2, z3, z4, z5, z6]
      refine ⟨by kernel_rfl, ?_⟩
      refine NoPanic.normal ?_
      exact ⟨rfl, g1, g2, g6, rfl, D38_.out.fin HB.out.1 HB.out.2.1 HB.out.2.2.1 HB.out.2.2.2 H0.out⟩
   ·have hmk := HMK.out
    go_simp
    have hd := D33_.out.a2 (by have := HB.out.2.1; omega) HMM.out
    refine hK.out _ _ (HBX.out _ hd.bel) (fun _ => ?_)
    clear hK hmk
    try simp only [Act.put, z1, z2, z3, z4, z5, z6]
    obtain ⟨g2, hgg⟩ : ∃ y, u33_.heap.size = y := ⟨_, rfl⟩
    obtain ⟨u39_, huu⟩ : ∃ y, u33_.alloc (.cells MM 4) = y := ⟨_, rfl⟩
    rw [hgg, huu] at hd ⊢
    have D39_ := Lib.hid hd
    clear hd hgg huu
    refine wpAnyH_ready (rs := [1, 7]) (by kernel_rfl) (by simp) ?_
    refine AllReadyH.cons rfl (fun k_ hK => ?_) (AllReadyH.cons rfl (fun k_ hK => ?_) (AllReadyH.nil))
    ·have hmk := HMK.out
     go_simp
     have hd := D39_.out.a1 (by have := HB.out.2.1; omega) HMM.out
     refine hK.out _ _ (HBX.out _ hd.bel) (fun _ => ?_)
     clear hK hmk
     try simp only [Act.put, z1, z2, z3, z4, z5, z6]
     obtain ⟨g1, hgg⟩ : ∃ y, u39_.heap.size = y := ⟨_, rfl⟩
     obtain ⟨u40_, huu⟩ : ∃ y, u39_.alloc (.cells MM 4) = y := ⟨_, rfl⟩
     rw [hgg, huu] at hd ⊢
     have D40_ := Lib.hid hd
     clear hd hgg huu
     refine tkI (i := 6) (v := .agg #[.slice (some ⟨g1, 0, none⟩) (K.n + 1) (K.n + 1), .slice (some ⟨g2, 0, none⟩) (K.n + 1) (K.n + 1), .bool x.emp]) rfl ⟨by rfl, ?_⟩ (HBX.out _ D40_.out.bel) ?_
     ·intro ww hSw
      obtain ⟨hs0, hs1, hs2⟩ := hSw
      go_simp
     try simp only [Act.put, z1, z2, z3, z4, z5, z6]
     refine wpAnyH_ready (rs := [7]) (by kernel_rfl) (by simp) ?_
     refine AllReadyH.cons rfl (fun k_ hK => ?_) (AllReadyH.nil)
     ·go_simp
      have hd := D40_.out.a6
      refine hK.out _ _ (HBX.out _ hd.bel) (fun _ => ?_)
      clear hK
      try simp only [Act.put, z1, z2, z3, z4, z5, z6]
      obtain ⟨g6, hgg⟩ : ∃ y, u40_.heap.size = y := ⟨_, rfl⟩
      obtain ⟨u41_, huu⟩ : ∃ y, u40_.alloc (.cells #[.slice none 0 0, .slice none 0 0, .bool false] 79) = y := ⟨_, rfl⟩
      rw [hgg, huu] at hd ⊢
      have D41_ := Lib.hid hd
      clear hd hgg huu
      refine wpAnyH_ready (rs := [8]) (by kernel_rfl) (by simp) ?_
      refine AllReadyH.cons rfl (fun k_ hK => ?_) AllReadyH.nil
      obtain ⟨⟨z0, z1, z2⟩, f0, f1, f2⟩ := three_cells (D41_.out.z6 _ rfl).2
      go_simp
      refine hK.out _ _ (HBX.out _ (set3'_below D41_.out.bel (D41_.out.z6 _ rfl).1 (.slice (some ⟨g1, 0, none⟩) (K.n + 1) (K.n + 1)) (.slice (some ⟨g2, 0, none⟩) (K.n + 1) (K.n + 1)) (.bool x.emp))) (fun _ => ?_)
      clear hK z0 z1 z2 f0 f1 f2
      try simp only [Act.put, z1, z2, z3, z4, z5, z6]
      refine ⟨by kernel_rfl, ?_⟩
      refine NoPanic.normal ?_
      exact ⟨rfl, g1, g2, g6, rfl, D41_.out.fin HB.out.1 HB.out.2.1 HB.out.2.2.1 HB.out.2.2.2 H0.out⟩
    ·go_simp
     have hd := D39_.out.a6
     refine hK.out _ _ (HBX.out _ hd.bel) (fun _ => ?_)
     clear hK
     try simp only [Act.put, z1, z2, z3, z4, z5, z6]
     obtain ⟨g6, hgg⟩ : ∃ y, u39_.heap.size = y := ⟨_, rfl⟩
     obtain ⟨u42_, huu⟩ : ∃ y, u39_.alloc (.cells #[.slice none 0 0, .slice none 0 0, .bool false] 79) = y := ⟨_, rfl⟩
     rw [hgg, huu] at hd ⊢
     have D42_ := Lib.hid hd
     clear hd hgg huu
     refine wpAnyH_ready (rs := [1]) (by kernel_rfl) (by simp) ?_
     refine AllReadyH.cons rfl (fun k_ hK => ?_) (AllReadyH.nil)
     ·have hmk := HMK.out
      go_simp
      have hd := D42_.out.a1 (by have := HB.out.2.1; omega) HMM.out
      refine hK.out _ _ (HBX.out _ hd.bel) (fun _ => ?_)
      clear hK hmk
      try simp only [Act.put, z1, z2, z3, z4, z5, z6]
      obtain ⟨g1, hgg⟩ : ∃ y, u42_.heap.size = y := ⟨_, rfl⟩
      obtain ⟨u43_, huu⟩ : ∃ y, u42_.alloc (.cells MM 4) = y := ⟨_, rfl⟩
      rw [hgg, huu] at hd ⊢
      have D43_ := Lib.hid hd
      clear hd hgg huu
      refine tkI (i := 6) (v := .agg #[.slice (some ⟨g1, 0, none⟩) (K.n + 1) (K.n + 1), .slice (some ⟨g2, 0, none⟩) (K.n + 1) (K.n + 1), .bool x.emp]) rfl ⟨by rfl, ?_⟩ (HBX.out _ D43_.out.bel) ?_
      ·intro ww hSw
       obtain ⟨hs0, hs1, hs2⟩ := hSw
       go_simp
      try simp only [Act.put, z1, z2, z3, z4, z5, z6]
      refine wpAnyH_ready (rs := [8]) (by kernel_rfl) (by simp) ?_
      refine AllReadyH.cons rfl (fun k_ hK => ?_) AllReadyH.nil
      obtain ⟨⟨z0, z1, z2⟩, f0, f1, f2⟩ := three_cells (D43_.out.z6 _ rfl).2
      go_simp
      refine hK.out _ _ (HBX.out _ (set3'_below D43_.out.bel (D43_.out.z6 _ rfl).1 (.slice (some ⟨g1, 0, none⟩) (K.n + 1) (K.n + 1)) (.slice (some ⟨g2, 0, none⟩) (K.n + 1) (K.n + 1)) (.bool x.emp))) (fun _ => ?_)
      clear hK z0 z1 z2 f0 f1 f2
      try simp only [Act.put, z1, z2, z3, z4, z5, z6]
      refine ⟨by kernel_rfl, ?_⟩
      refine NoPanic.normal ?_
      exact ⟨rfl, g1, g2, g6, rfl, D43_.out.fin HB.out.1 HB.out.2.1 HB.out.2.2.1 HB.out.2.2.2 H0.out⟩
   ·go_simp
    have hd := D33_.out.a6
    refine hK.out _ _ (HBX.out _ hd.bel) (fun _ => ?_)
    clear hK
    try simp only [Act.put, z1, z2, z3, z4, z5, z6]
    obtain ⟨g6, hgg⟩ : ∃ y, u33_.heap.size = y := ⟨_, rfl⟩
    obtain ⟨u44_, huu⟩ : ∃ y, u33_.alloc (.cells #[.slice none 0 0, .slice none 0 0, .bool false] 79) = y := ⟨_, rfl⟩
    rw [hgg, huu] at hd ⊢
    have D44_ := Lib.hid hd
    clear hd hgg huu
    refine wpAnyH_ready (rs := [1, 3]) (by kernel_rfl) (by simp) ?_
    refine AllReadyH.cons rfl (fun k_ hK => ?_) (AllReadyH.cons rfl (fun k_ hK => ?_) (AllReadyH.nil))
    ·have hmk := HMK.out
     go_simp
     have hd := D44_.out.a1 (by have := HB.out.2.1; omega) HMM.out
     refine hK.out _ _ (HBX.out _ hd.bel) (fun _ => ?_)
     clear hK hmk
     try simp only [Act.put, z1, z2, z3, z4, z5, z6]
     obtain ⟨g1, hgg⟩ : ∃ y, u44_.heap.size = y := ⟨_, rfl⟩
     obtain ⟨u45_, huu⟩ : ∃ y, u44_.alloc (.cells MM 4) = y := ⟨_, rfl⟩
     rw [hgg, huu] at hd ⊢
     have D45_ := Lib.hid hd
     clear hd hgg huu
     refine wpAnyH_ready (rs := [3]) (by kernel_rfl) (by simp) ?_
     refine AllReadyH.cons rfl (fun k_ hK => ?_) (AllReadyH.nil)
     ·have hmk := HMK.out
      go_simp
      have hd := D45_.out.a2 (by have := HB.out.2.1; omega) HMM.out
      refine hK.out _ _ (HBX.out _ hd.bel) (fun _ => ?_)
      clear hK hmk
      try simp only [Act.put, z1, z2, z3, z4, z5, z6]
      obtain ⟨g2, hgg⟩ : ∃ y, u45_.heap.size = y := ⟨_, rfl⟩
      obtain ⟨u46_, huu⟩ : ∃ y, u45_.alloc (.cells MM 4) = y := ⟨_, rfl⟩
      rw [hgg, huu] at hd ⊢
      have D46_ := Lib.hid hd
      clear hd hgg huu
      refine tkI (i := 6) (v := .agg #[.slice (some ⟨g1, 0, none⟩) (K.n + 1) (K.n + 1), .slice (some ⟨g2, 0, none⟩) (K.n + 1) (K.n + 1), .bool x.emp]) rfl ⟨by rfl, ?_⟩ (HBX.out _ D46_.out.bel) ?_
      ·intro ww hSw
       obtain ⟨hs0, hs1, hs2⟩ := hSw
       go_simp
      try simp only [Act.put, z1, z2, z3, z4, z5, z6]
      refine wpAnyH_ready (rs := [8]) (by kernel_rfl) (by simp) ?_
      refine AllReadyH.cons rfl (fun k_ hK => ?_) AllReadyH.nil
      obtain ⟨⟨z0, z1, z2⟩, f0, f1, f2⟩ := three_cells (D46_.out.z6 _ rfl).2
      go_simp
      refine hK.out _ _ (HBX.out _ (set3'_below D46_.out.bel (D46_.out.z6 _ rfl).1 (.slice (some ⟨g1, 0, none⟩) (K.n + 1) (K.n + 1)) (.slice (some ⟨g2, 0, none⟩) (K.n + 1) (K.n + 1)) (.bool x.emp))) (fun _ => ?_)
      clear hK z0 z1 z2 f0 f1 f2
      try simp only [Act.put, z1, z2, z3, z4, z5, z6]
      refine ⟨by kernel_rfl, ?_⟩
      refine NoPanic.normal ?_
      exact ⟨rfl, g1, g2, g6, rfl, D46_.out.fin HB.out.1 HB.out.2.1 HB.out.2.2.1 HB.out.2.2.2 H0.out⟩
    ·have hmk := HMK.out
     go_simp
     have hd := D44_.out.a2 (by have := HB.out.2.1; omega) HMM.out
     refine hK.out _ _ (HBX.out _ hd.bel) (fun _ => ?_)
     clear hK hmk
     try simp only [Act.put, z1, z2, z3, z4, z5, z6]
     obtain ⟨g2, hgg⟩ : ∃ y, u44_.heap.size = y := ⟨_, rfl⟩
     obtain ⟨u47_, huu⟩ : ∃ y, u44_.alloc (.cells MM 4) = y := ⟨_, rfl⟩
     rw [hgg, huu] at hd ⊢
     have D47_ := Lib.hid hd
     clear hd hgg huu
     refine wpAnyH_ready (rs := [1]) (by kernel_rfl) (by simp) ?_
     refine AllReadyH.cons rfl (fun k_ hK => ?_) (AllReadyH.nil)
     ·have hmk := HMK.out
      go_simp
      have hd := D47_.out.a1 (by have := HB.out.2.1; omega) HMM.out
      refine hK.out _ _ (HBX.out _ hd.bel) (fun _ => ?_)
      clear hK hmk
      try simp only [Act.put, z1, z2, z3, z4, z5, z6]
      obtain ⟨g1, hgg⟩ : ∃ y, u47_.heap.size = y := ⟨_, rfl⟩
      obtain ⟨u48_, huu⟩ : ∃ y, u47_.alloc (.cells MM 4) = y := ⟨_, rfl⟩
      rw [hgg, huu] at hd ⊢
      have D48_ := Lib.hid hd
      clear hd hgg huu
      refine tkI (i := 6) (v := .agg #[.slice (some ⟨g1, 0, none⟩) (K.n + 1) (K.n + 1), .slice (some ⟨g2, 0, none⟩) (K.n + 1) (K.n + 1), .bool x.emp]) rfl ⟨by rfl, ?_⟩ (HBX.out _ D48_.out.bel) ?_
      ·intro ww hSw
       obtain ⟨hs0, hs1, hs2⟩ := hSw
       go_simp
      try simp only [Act.put, z1, z2, z3, z4, z5, z6]
      refine wpAnyH_ready (rs := [8]) (by kernel_rfl) (by simp) ?_
      refine AllReadyH.cons rfl (fun k_ hK => ?_) AllReadyH.nil
      obtain ⟨⟨z0, z1, z2⟩, f0, f1, f2⟩ := three_cells (D48_.out.z6 _ rfl).2
      go_simp
      refine hK.out _ _ (HBX.out _ (set3'_below D48_.out.bel (D48_.out.z6 _ rfl).1 (.slice (some ⟨g1, 0, none⟩) (K.n + 1) (K.n + 1)) (.slice (some ⟨g2, 0, none⟩) (K.n + 1) (K.n + 1)) (.bool x.emp))) (fun _ => ?_)
      clear hK z0 z1 z2 f0 f1 f2
      try simp only [Act.put, z1, z2, z3, z4, z5, z6]
      refine ⟨by kernel_rfl, ?_⟩
      refine NoPanic.normal ?_
      exact ⟨rfl, g1, g2, g6, rfl, D48_.out.fin HB.out.1 HB.out.2.1 HB.out.2.2.1 HB.out.2.2.2 H0.out⟩
  ·go_simp
   have hd := DD.out.a6
   refine hK.out _ _ (HBX.out _ hd.bel) (fun _ => ?_)
   clear hK
   try simp only [Act.put, z1, z2, z3, z4, z5, z6]
   obtain ⟨g6, hgg⟩ : ∃ y, D0_.heap.size = y := ⟨_, rfl⟩
   obtain ⟨u49_, huu⟩ : ∃ y, D0_.alloc (.cells #[.slice none 0 0, .slice none 0 0, .bool false] 79) = y := ⟨_, rfl⟩
   rw [hgg, huu] at hd ⊢
   have D49_ := Lib.hid hd
   clear hd hgg huu
   refine wpAnyH_ready (rs := [1, 3, 5]) (by kernel_rfl) (by simp) ?_
   refine AllReadyH.cons rfl (fun k_ hK => ?_) (AllReadyH.cons rfl (fun k_ hK => ?_) (AllReadyH.cons rfl (fun k_ hK => ?_) (AllReadyH.nil)))
   ·have hmk := HMK.out
    go_simp
    have hd := D49_.out.a1 (by have := HB.out.2.1; omega) HMM.out
    refine hK.out _ _ (HBX.out _ hd.bel) (fun _ => ?_)
    clear hK hmk
    try simp only [Act.put, z1, z2, z3, z4, z5, z6]
    obtain ⟨g1, hgg⟩ : ∃ y, u49_.heap.size = y := ⟨_, rfl⟩
    obtain ⟨u50_, huu⟩ : ∃ y, u49_.alloc (.cells MM 4) = y := ⟨_, rfl⟩
    rw [hgg, huu] at hd ⊢
    have D50_ := Lib.hid hd
    clear hd hgg huu
    refine wpAnyH_ready (rs := [3, 5]) (by kernel_rfl) (by simp) ?_
    refine AllReadyH.cons rfl (fun k_ hK => ?_) (AllReadyH.cons rfl (fun k_ hK => ?_) (AllReadyH.nil))
    ·have hmk := HMK.out
     go_simp
     have hd := D50_.out.a2 (by have := HB.out.2.1; omega) HMM.out
     refine hK.out _ _ (HBX.out _ hd.bel) (fun _ => ?_)
     clear hK hmk
     try simp only [Act.put, z1, z2, z3, z4, z5, z6]
     obtain ⟨g2, hgg⟩ : ∃ y, u50_.heap.size = y := ⟨_, rfl⟩
     obtain ⟨u51_, huu⟩ : ∃ y, u50_.alloc (.cells MM 4) = y := ⟨_, rfl⟩
     rw [hgg, huu] at hd ⊢
     have D51_ := Lib.hid hd
     clear hd hgg huu
     refine wpAnyH_ready (rs := [5]) (by kernel_rfl) (by simp) ?_
     refine AllReadyH.cons rfl (fun k_ hK => ?_) (AllReadyH.nil)
     ·go_simp
      refine (HEMP.out _ D51_.out.bel).mono ?_
      rintro e u52_ ⟨rfl, hb⟩
      have D52_ := Lib.hid (D51_.out.step hb)
      clear hb
      refine hK.out _ _ (HBX.out _ D52_.out.bel) (fun _ => ?_)
      clear hK
      try simp only [Act.put, z1, z2, z3, z4, z5, z6]
      refine tkI (i := 6) (v := .agg #[.slice (some ⟨g1, 0, none⟩) (K.n + 1) (K.n + 1), .slice (some ⟨g2, 0, none⟩) (K.n + 1) (K.n + 1), .bool x.emp]) rfl ⟨by rfl, ?_⟩ (HBX.out _ D52_.out.bel) ?_
      ·intro ww hSw
       obtain ⟨hs0, hs1, hs2⟩ := hSw
       go_simp
      try simp only [Act.put, z1, z2, z3, z4, z5, z6]
      refine wpAnyH_ready (rs := [8]) (by kernel_rfl) (by simp) ?_
      refine AllReadyH.cons rfl (fun k_ hK => ?_) AllReadyH.nil
      obtain ⟨⟨z0, z1, z2⟩, f0, f1, f2⟩ := three_cells (D52_.out.z6 _ rfl).2
      go_simp
      refine hK.out _ _ (HBX.out _ (set3'_below D52_.out.bel (D52_.out.z6 _ rfl).1 (.slice (some ⟨g1, 0, none⟩) (K.n + 1) (K.n + 1)) (.slice (some ⟨g2, 0, none⟩) (K.n + 1) (K.n + 1)) (.bool x.emp))) (fun _ => ?_)
      clear hK z0 z1 z2 f0 f1 f2
      try simp only [Act.put, z1, z2, z3, z4, z5, z6]
      refine ⟨by kernel_rfl, ?_⟩
      refine NoPanic.normal ?_
      exact ⟨rfl, g1, g2, g6, rfl, D52_.out.fin HB.out.1 HB.out.2.1 HB.out.2.2.1 HB.out.2.2.2 H0.out⟩
    ·go_simp
     refine (HEMP.out _ D50_.out.bel).mono ?_
     rintro e u53_ ⟨rfl, hb⟩
     have D53_ := Lib.hid (D50_.out.step hb)
     clear hb
     refine hK.out _ _ (HBX.out _ D53_.out.bel) (fun _ => ?_)
     clear hK
     try simp only [Act.put, z1, z2, z3, z4, z5, z6]
     refine wpAnyH_ready (rs := [3]) (by kernel_rfl) (by simp) ?_
     refine AllReadyH.cons rfl (fun k_ hK => ?_) (AllReadyH.nil)
     ·have hmk := HMK.out
      go_simp
      have hd := D53_.out.a2 (by have := HB.out.2.1; omega) HMM.out
      refine hK.out _ _ (HBX.out _ hd.bel) (fun _ => ?_)
      clear hK hmk
      try simp only [Act.put, z1, z2, z3, z4, z5, z6]
      obtain ⟨g2, hgg⟩ : ∃ y, u53_.heap.size = y := ⟨_, rfl⟩
      obtain ⟨u54_, huu⟩ : ∃ y, u53_.alloc (.cells MM 4) = y := ⟨_, rfl⟩
      rw [hgg, huu] at hd ⊢
      have D54_ := Lib.hid hd
      clear hd hgg huu
      refine tkI (i := 6) (v := .agg #[.slice (some ⟨g1, 0, none⟩) (K.n + 1) (K.n + 1), .slice (some ⟨g2, 0, none⟩) (K.n + 1) (K.n + 1), .bool x.emp]) rfl ⟨by rfl, ?_⟩ (HBX.out _ D54_.out.bel) ?_
      ·intro ww hSw
       obtain ⟨hs0, hs1, hs2⟩ := hSw
       go_simp
      try simp only [Act.put, z1, z2, z3, z4, z5, z6]
      refine wpAnyH_ready (rs := [8]) (by kernel_rfl) (by simp) ?_
      refine AllReadyH.cons rfl (fun k_ hK => ?_) AllReadyH.nil
      obtain ⟨⟨z0, z1, z2⟩, f0, f1, f2⟩ := three_cells (D54_.out.z6 _ rfl).2
      go_simp
      refine hK.out _ _ (HBX.out _ (set3'_below D54_.out.bel (D54_.out.z6 _ rfl).1 (.slice (some ⟨g1, 0, none⟩) (K.n + 1) (K.n + 1)) (.slice (some ⟨g2, 0, none⟩) (K.n + 1) (K.n + 1)) (.bool x.emp))) (fun _ => ?_)
      clear hK z0 z1 z2 f0 f1 f2
      try simp only [Act.put, z1, z2, z3, z4, z5, z6]
      refine ⟨by kernel_rfl, ?_⟩
      refine NoPanic.normal ?_
      exact ⟨rfl, g1, g2, g6, rfl, D54_.out.fin HB.out.1 HB.out.2.1 HB.out.2.2.1 HB.out.2.2.2 H0.out⟩
   ·have hmk := HMK.out
    go_simp
    have hd := D49_.out.a2 (by have := HB.out.2.1; omega) HMM.out
    refine hK.out _ _ (HBX.out _ hd.bel) (fun _ => ?_)
    clear hK hmk
    try simp only [Act.put, z1, z2, z3, z4, z5, z6]
    obtain ⟨g2, hgg⟩ : ∃ y, u49_.heap.size = y := ⟨_, rfl⟩
    obtain ⟨u55_, huu⟩ : ∃ y, u49_.alloc (.cells MM 4) = y := ⟨_, rfl⟩
    rw [hgg, huu] at hd ⊢
    have D55_ := Lib.hid hd
    clear hd hgg huu
    refine wpAnyH_ready (rs := [1, 5]) (by kernel_rfl) (by simp) ?_
    refine AllReadyH.cons rfl (fun k_ hK => ?_) (AllReadyH.cons rfl (fun k_ hK => ?_) (AllReadyH.nil))
    ·have hmk := HMK.out
     go_simp
     have hd := D55_.out.a1 (by have := HB.out.2.1; omega) HMM.out
     refine hK.out _ _ (HBX.out _ hd.bel) (fun _ => ?_)
     clear hK hmk
     try simp only [Act.put, z1, z2, z3, z4, z5, z6]
     obtain ⟨g1, hgg⟩ : ∃ y, u55_.heap.size = y := ⟨_, rfl⟩
     obtain ⟨u56_, huu⟩ : ∃ y, u55_.alloc (.cells MM 4) = y := ⟨_, rfl⟩
     rw [hgg, huu] at hd ⊢
     have D56_ := Lib.hid hd
     clear hd hgg huu
     refine wpAnyH_ready (rs := [5]) (by kernel_rfl) (by simp) ?_
     refine AllReadyH.cons rfl (fun k_ hK => ?_) (AllReadyH.nil)
     ·go_simp
      refine (HEMP.out _ D56_.out.bel).mono ?_
      rintro e u57_ ⟨rfl, hb⟩
      have D57_ := Lib.hid (D56_.out.step hb)
      clear hb
      refine hK.out _ _ (HBX.out _ D57_.out.bel) (fun _ => ?_)
      clear hK
      try simp only [Act.put, z1, z2, z3, z4, z5, z6]
      refine tkI (i := 6) (v := .agg #[.slice (some ⟨g1, 0, none⟩) (K.n + 1) (K.n + 1), .slice (some ⟨g2, 0, none⟩) (K.n + 1) (K.n + 1), .bool x.emp]) rfl ⟨by rfl, ?_⟩ (HBX.out _ D57_.out.bel) ?_
      ·intro ww hSw
       obtain ⟨hs0, hs1, hs2⟩ := hSw
       go_simp
      try simp only [Act.put, z1, z2, z3, z4, z5, z6]
      refine wpAnyH_ready (rs := [8]) (by kernel_rfl) (by simp) ?_
      refine AllReadyH.cons rfl (fun k_ hK => ?_) AllReadyH.nil
      obtain ⟨⟨z0, z1, z2⟩, f0, f1, f2⟩ := three_cells (D57_.out.z6 _ rfl).2
      go_simp
      refine hK.out _ _ (HBX.out _ (set3'_below D57_.out.bel (D57_.out.z6 _ rfl).1 (.slice (some ⟨g1, 0, none⟩) (K.n + 1) (K.n + 1)) (.slice (some ⟨g2, 0, none⟩) (K.n + 1) (K.n + 1)) (.bool x.emp))) (fun _ => ?_)
      clear hK z0 z1 z2 f0 f1 f2
      try simp only [Act.put, z1, z2, z3, z4, z5, z6]
      refine ⟨by kernel_rfl, ?_⟩
      refine NoPanic.normal ?_
      exact ⟨rfl, g1, g2, g6, rfl, D57_.out.fin HB.out.1 HB.out.2.1 HB.out.2.2.1 HB.out.2.2.2 H0.out⟩
    ·go_simp
     refine (HEMP.out _ D55_.out.bel).mono ?_
     rintro e u58_ ⟨rfl, hb⟩
     have D58_ := Lib.hid (D55_.out.step hb)
     clear hb
     refine hK.out _ _ (HBX.out _ D58_.out.bel) (fun _ => ?_)
     clear hK
     try simp only [Act.put, z1, z2, z3, z4, z5, z6]
     refine wpAnyH_ready (rs := [1]) (by kernel_rfl) (by simp) ?_
     refine AllReadyH.cons rfl (fun k_ hK => ?_) (AllReadyH.nil)
     ·have hmk := HMK.out
      go_simp
      have hd := D58_.out.a1 (by have := HB.out.2.1; omega) HMM.out
      refine hK.out _ _ (HBX.out _ hd.bel) (fun _ => ?_)
      clear hK hmk
      try simp only [Act.put, z1, z2, z3, z4, z5, z6]
      obtain ⟨g1, hgg⟩ : ∃ y, u58_.heap.size = y := ⟨_, rfl⟩
      obtain ⟨u59_, huu⟩ : ∃ y, u58_.alloc (.cells MM 4) = y := ⟨_, rfl⟩
      rw [hgg, huu] at hd ⊢
      have D59_ := Lib.hid hd
      clear hd hgg huu
      refine tkI (i := 6) (v := .agg #[.slice (some ⟨g1, 0, none⟩) (K.n + 1) (K.n + 1), .slice (some ⟨g2, 0, none⟩) (K.n + 1) (K.n + 1), .bool x.emp]) rfl ⟨by rfl, ?_⟩ (HBX.out _ D59_.out.bel) ?_
      ·intro ww hSw
       obtain ⟨hs0, hs1, hs2⟩ := hSw
       go_simp
      try simp only [Act.put, z1, z2, z3, z4, z5, z6]
      refine wpAnyH_ready (rs := [8]) (by kernel_rfl) (by simp) ?_
      refine AllReadyH.cons rfl (fun k_ hK => ?_) AllReadyH.nil
      obtain ⟨⟨z0, z1, z2⟩, f0, f1, f2⟩ := three_cells (D59_.out.z6 _ rfl).2
      go_simp
      refine hK.out _ _ (HBX.out _ (set3'_below D59_.out.bel (D59_.out.z6 _ rfl).1 (.slice (some ⟨g1, 0, none⟩) (K.n + 1) (K.n + 1)) (.slice (some ⟨g2, 0, none⟩) (K.n + 1) (K.n + 1)) (.bool x.emp))) (fun _ => ?_)
      clear hK z0 z1 z2 f0 f1 f2
      try simp only [Act.put, z1, z2, z3, z4, z5, z6]
      refine ⟨by kernel_rfl, ?_⟩
      refine NoPanic.normal ?_
      exact ⟨rfl, g1, g2, g6, rfl, D59_.out.fin HB.out.1 HB.out.2.1 HB.out.2.2.1 HB.out.2.2.2 H0.out⟩
   ·go_simp
    refine (HEMP.out _ D49_.out.bel).mono ?_
    rintro e u60_ ⟨rfl, hb⟩
    have D60_ := Lib.hid (D49_.out.step hb)
    clear hb
    refine hK.out _ _ (HBX.out _ D60_.out.bel) (fun _ => ?_)
    clear hK
    try simp only [Act.put, z1, z2, z3, z4, z5, z6]
    refine wpAnyH_ready (rs := [1, 3]) (by kernel_rfl) (by simp) ?_
    refine AllReadyH.cons rfl (fun k_ hK => ?_) (AllReadyH.cons rfl (fun k_ hK => ?_) (AllReadyH.nil))
    ·have hmk := HMK.out
     go_simp
     have hd := D60_.out.a1 (by have := HB.out.2.1; omega) HMM.out
     refine hK.out _ _ (HBX.out _ hd.bel) (fun _ => ?_)
     clear hK hmk
     try simp only [Act.put, z1, z2, z3, z4, z5, z6]
     obtain ⟨g1, hgg⟩ : ∃ y, u60_.heap.size = y := ⟨_, rfl⟩
     obtain ⟨u61_, huu⟩ : ∃ y, u60_.alloc (.cells MM 4) = y := ⟨_, rfl⟩
     rw [hgg, huu] at hd ⊢
     have D61_ := Lib.hid hd
     clear hd hgg huu
     refine wpAnyH_ready (rs := [3]) (by kernel_rfl) (by simp) ?_
     refine AllReadyH.cons rfl (fun k_ hK => ?_) (AllReadyH.nil)
     ·have hmk := HMK.out
      go_simp
      have hd := D61_.out.a2 (by have := HB.out.2.1; omega) HMM.out
      refine hK.out _ _ (HBX.out _ hd.bel) (fun _ => ?_)
      clear hK hmk
      try simp only [Act.put, z1, z2, z3, z4, z5, z6]
      obtain ⟨g2, hgg⟩ : ∃ y, u61_.heap.size = y := ⟨_, rfl⟩
      obtain ⟨u62_, huu⟩ : ∃ y, u61_.alloc (.cells MM 4) = y := ⟨_, rfl⟩
      rw [hgg, huu] at hd ⊢
      have D62_ := Lib.hid hd
      clear hd hgg huu
      refine tkI (i := 6) (v := .agg #[.slice (some ⟨g1, 0, none⟩) (K.n + 1) (K.n + 1), .slice (some ⟨g2, 0, none⟩) (K.n + 1) (K.n + 1), .bool x.emp]) rfl ⟨by rfl, ?_⟩ (HBX.out _ D62_.out.bel) ?_
      ·intro ww hSw
       obtain ⟨hs0, hs1, hs2⟩ := hSw
       go_simp
      try simp only [Act.put, z1, z2, z3, z4, z5, z6]
      refine wpAnyH_ready (rs := [8]) (by kernel_rfl) (by simp) ?_
      refine AllReadyH.cons rfl (fun k_ hK => ?_) AllReadyH.nil
      obtain ⟨⟨z0, z1, z2⟩, f0, f1, f2⟩ := three_cells (D62_.out.z6 _ rfl).2
      go_simp
      refine hK.out _ _ (HBX.out _ (set3'_below D62_.out.bel (D62_.out.z6 _ rfl).1 (.slice (some ⟨g1, 0, none⟩) (K.n + 1) (K.n + 1)) (.slice (some ⟨g2, 0, none⟩) (K.n + 1) (K.n + 1)) (.bool x.emp))) (fun _ => ?_)
      clear hK z0 z1 z2 f0 f1 f2
      try simp only [Act.put, z1, z2, z3, z4, z5, z6]
      refine ⟨by kernel_rfl, ?_⟩
      refine NoPanic.normal ?_
      exact ⟨rfl, g1, g2, g6, rfl, D62_.out.fin HB.out.1 HB.out.2.1 HB.out.2.2.1 HB.out.2.2.2 H0.out⟩
    ·have hmk := HMK.out
     go_simp
     have hd := D60_.out.a2 (by have := HB.out.2.1; omega) HMM.out
     refine hK.out _ _ (HBX.out _ hd.bel) (fun _ => ?_)
     clear hK hmk
     try simp only [Act.put, z1, z2, z3, z4, z5, z6]
     obtain ⟨g2, hgg⟩ : ∃ y, u60_.heap.size = y := ⟨_, rfl⟩
     obtain ⟨u63_, huu⟩ : ∃ y, u60_.alloc (.cells MM 4) = y := ⟨_, rfl⟩
     rw [hgg, huu] at hd ⊢
     have D63_ := Lib.hid hd
     clear hd hgg huu
     refine wpAnyH_ready (rs := [1]) (by kernel_rfl) (by simp) ?_
     refine AllReadyH.cons rfl (fun k_ hK => ?_) (AllReadyH.nil)
     ·have hmk := HMK.out
      go_simp
      have hd := D63_.out.a1 (by have := HB.out.2.1; omega) HMM.out
      refine hK.out _ _ (HBX.out _ hd.bel) (fun _ => ?_)
      clear hK hmk
      try simp only [Act.put, z1, z2, z3, z4, z5, z6]
      obtain ⟨g1, hgg⟩ : ∃ y, u63_.heap.size = y := ⟨_, rfl⟩
      obtain ⟨u64_, huu⟩ : ∃ y, u63_.alloc (.cells MM 4) = y := ⟨_, rfl⟩
      rw [hgg, huu] at hd ⊢
      have D64_ := Lib.hid hd
      clear hd hgg huu
      refine tkI (i := 6) (v := .agg #[.slice (some ⟨g1, 0, none⟩) (K.n + 1) (K.n + 1), .slice (some ⟨g2, 0, none⟩) (K.n + 1) (K.n + 1), .bool x.emp]) rfl ⟨by rfl, ?_⟩ (HBX.out _ D64_.out.bel) ?_
      ·intro ww hSw
       obtain ⟨hs0, hs1, hs2⟩ := hSw
       go_simp
      try simp only [Act.put, z1, z2, z3, z4, z5, z6]
      refine wpAnyH_ready (rs := [8]) (by kernel_rfl) (by simp) ?_
      refine AllReadyH.cons rfl (fun k_ hK => ?_) AllReadyH.nil
      obtain ⟨⟨z0, z1, z2⟩, f0, f1, f2⟩ := three_cells (D64_.out.z6 _ rfl).2
      go_simp
      refine hK.out _ _ (HBX.out _ (set3'_below D64_.out.bel (D64_.out.z6 _ rfl).1 (.slice (some ⟨g1, 0, none⟩) (K.n + 1) (K.n + 1)) (.slice (some ⟨g2, 0, none⟩) (K.n + 1) (K.n + 1)) (.bool x.emp))) (fun _ => ?_)
      clear hK z0 z1 z2 f0 f1 f2
      try simp only [Act.put, z1, z2, z3, z4, z5, z6]
      refine ⟨by kernel_rfl, ?_⟩
      refine NoPanic.normal ?_
      exact ⟨rfl, g1, g2, g6, rfl, D64_.out.fin HB.out.1 HB.out.2.1 HB.out.2.2.1 HB.out.2.2.2 H0.out⟩
 rintro e a' W2 ⟨rfl, g1, g2, g6, ha, hD⟩
 dsimp only at ha
 subst ha
 have HD := Lib.hid hD
 clear hD HBX HEMP HMK HMM
 have ek : (x.kind == 1) = true := by simp [H1.out]
 obtain ⟨Av, cv, hvl⟩ := row_form H.out.lab
 subst hvl
 obtain ⟨i9, hi9, hz9, hs9, hb9⟩ := info_parts parts9
 have HB2 := Lib.hid (Nat.le_trans HG.out.2.2.2.2.1 HD.out.b.size)
 have HLE := Lib.hid (show labs.length ≤ K.n by have := HG.out.2.2.2.2.2; have e := X.pn_eq x; rw [if_pos H1.out] at e; omega)
 have HLT := Lib.hid (show (labs.length : Int) < (K.n : Int) + 1 by have := HLE.out; omega)
 obtain ⟨⟨c0, c1, c2⟩, -⟩ := three_cells HD.out.bx
 have HWR := Lib.hid (show IntKind.i64.wrap (labs.length : Int) = labs.length from IntWalk.i64_in _ ⟨by omega, by have := HLE.out; omega⟩)
 go_upto_region 4 with (fail)
 clear c0 c1 c2
 try simp only [ek]
 clear ek
 have HBX := Lib.hid (fun W (hk : Kr B K.r K.n W2 W) => (three_cells (hk.boxed HD.out.bx (by decide) (by decide) (by decide))).1)
 have HRN := Lib.hid (fun W (hb : Below W2.heap.size W2 W) => HD.out.rn.bel hb)
 refine Code.wp_mono (Q := fun e a' W' => e = .normal ∧ ∃ A6 c6 ga, a' = { tmps := #[.pointer (some ⟨K.R, 0, none⟩), .agg #[.int .i64 x.kind, .string x.lab, .slice A nk c], undef, .pointer (some ⟨w.heap.size, 0, none⟩), .pointer (some ⟨w.heap.size + 1, 0, none⟩), .int .i64 ((K.n : Int) + 1), .pointer (some ⟨g6, 0, none⟩), undef, undef, undef, undef, undef, undef, undef, undef, undef, undef, .pointer (some ⟨K.R, 0, none⟩), .pointer (some ⟨K.R, 0, none⟩), .pointer (some ⟨K.R, 3, none⟩), .slice (some ⟨K.g, 0, none⟩) (K.n + 1) K.c, .int .i64 ((K.n : Int) + 1), .int .i64 ((K.n : Int) + 1), .slice (some ⟨g1, 0, none⟩) (K.n + 1) (K.n + 1), .int .i64 ((K.n : Int) + 1), .slice (some ⟨g2, 0, none⟩) (K.n + 1) (K.n + 1), .agg #[.int .i64 x.kind, .string x.lab, .slice A nk c], .bool x.emp, .agg #[.slice (some ⟨g1, 0, none⟩) (K.n + 1) (K.n + 1), .slice (some ⟨g2, 0, none⟩) (K.n + 1) (K.n + 1), .bool x.emp], .pointer (some ⟨w.heap.size, 0, none⟩), .int .i64 x.kind, .bool true, .pointer (some ⟨K.R, 0, none⟩), .pointer (some ⟨K.R, 0, none⟩), .pointer (some ⟨K.R, 0, none⟩), .pointer (some ⟨K.R, 0, none⟩), .slice Av labs.length cv, .pointer (some ⟨w.heap.size, 1, none⟩), .string x.lab, .slice (some ⟨ga, 0, none⟩) 1 1, .slice A6 (labs.length + 1) c6, .pointer (some ⟨K.R, 0, none⟩), .pointer (some ⟨K.R, 0, none⟩), undef, undef, undef, undef, undef, undef, undef, undef, undef, undef, undef, undef, undef, undef, undef, undef, undef, undef, undef, undef, undef, undef, undef, undef, undef, undef, undef, undef, undef, undef, undef, undef, undef, undef, undef, undef, undef, undef, undef, undef, undef, undef, undef, undef, undef, undef, undef, undef, undef, undef, undef, undef, undef, undef, undef, undef, undef, undef, undef, undef, undef, undef, undef, undef, undef, undef, undef, undef, undef, undef, undef, undef, undef, undef, undef, undef, undef, undef, undef, undef, undef, undef, undef, undef, undef, undef, undef, undef, undef, undef, undef, undef, undef, undef, undef, undef, undef, undef, undef, undef, undef, undef, undef, undef, undef, undef, undef, undef, undef, undef, undef, undef, undef, undef, undef, undef, undef, undef, undef, undef, undef, undef, undef, undef, undef, undef, undef, undef, undef, undef, undef, undef, undef, undef, undef, undef, undef, undef, undef, undef, undef, undef, undef, undef, undef, undef, undef, undef], defers := [] } ∧ D3 B w W' K x nk c A (.slice A6 (labs.length + 1) c6) (labs ++ [x.lab]) P g1 g2 g6 (fun _ => False) (fun _ => False)) ?_ ?_
 rotate_left
 ·obtain ⟨r0, hr0⟩ : ∃ y, W2.drew = y := ⟨_, rfl⟩
  have P0 := Lib.hid (show Below W2.heap.size W2 r0 by rw [← hr0]; exact (Below.refl _ _).drew)
  refine wp_region_noPanic ?_
  refine wp_region_held_drew (S := fun W => W.cell? ⟨w.heap.size, 0, none⟩ = some (.int .i64 x.kind) ∧ W.cell? ⟨w.heap.size, 1, none⟩ = some (.string x.lab) ∧ W.cell? ⟨w.heap.size, 2, none⟩ = some (.slice A nk c)) (by kernel_rfl) (by rw [hr0]; exact HBX.out _ (Kr.of_below P0.out HB2.out)) (fun hHeld => ?_)
  clear hHeld
  rw [hr0]
  clear hr0
  refine tkI (i := 0) (v := .pointer (some ⟨K.R, 0, none⟩)) rfl ⟨by rfl, ?_⟩ (HBX.out _ (Kr.of_below P0.out HB2.out)) ?_
  ·intro ww hSw
   obtain ⟨hs0, hs1, hs2⟩ := hSw
   go_simp
  try simp only [Act.put, z1, z2, z3, z4, z5, z6]
  refine tkI (i := 1) (v := .pointer (some ⟨K.R, 0, none⟩)) rfl ⟨by rfl, ?_⟩ (HBX.out _ (Kr.of_below P0.out HB2.out)) ?_
  ·intro ww hSw
   obtain ⟨hs0, hs1, hs2⟩ := hSw
   go_simp
  try simp only [Act.put, z1, z2, z3, z4, z5, z6]
  refine tkI (i := 2) (v := .pointer (some ⟨K.R, 0, none⟩)) rfl ⟨by rfl, ?_⟩ (HBX.out _ (Kr.of_below P0.out HB2.out)) ?_
  ·intro ww hSw
   obtain ⟨hs0, hs1, hs2⟩ := hSw
   go_simp
  try simp only [Act.put, z1, z2, z3, z4, z5, z6]
  refine tkI (i := 3) (v := .pointer (some ⟨K.R, 0, none⟩)) rfl ⟨by rfl, ?_⟩ (HBX.out _ (Kr.of_below P0.out HB2.out)) ?_
  ·intro ww hSw
   obtain ⟨hs0, hs1, hs2⟩ := hSw
   go_simp
  try simp only [Act.put, z1, z2, z3, z4, z5, z6]
  refine tkI (i := 5) (v := .pointer (some ⟨w.heap.size, 1, none⟩)) rfl ⟨by rfl, ?_⟩ (HBX.out _ (Kr.of_below P0.out HB2.out)) ?_
  ·intro ww hSw
   obtain ⟨hs0, hs1, hs2⟩ := hSw
   go_simp
  try simp only [Act.put, z1, z2, z3, z4, z5, z6]
  refine tkI (i := 6) (v := .string x.lab) rfl ⟨by rfl, ?_⟩ (HBX.out _ (Kr.of_below P0.out HB2.out)) ?_
  ·intro ww hSw
   obtain ⟨hs0, hs1, hs2⟩ := hSw
   go_simp
  try simp only [Act.put, z1, z2, z3, z4, z5, z6]
  refine wpAnyH_ready (rs := [4, 7]) (by kernel_rfl) (by simp) ?_
  refine AllReadyH.cons rfl (fun k_ hK => ?_) (AllReadyH.cons rfl (fun k_ hK => ?_) (AllReadyH.nil))
  ·have q1 := (HRN.out _ P0.out).cells.1
   go_simp
   clear q1
   refine hK.out _ _ (HBX.out _ (Kr.of_below P0.out HB2.out)) (fun _ => ?_)
   clear hK
   try simp only [Act.put, z1, z2, z3, z4, z5, z6]
   refine wpAnyH_ready (rs := [7]) (by kernel_rfl) (by simp) ?_
   refine AllReadyH.cons rfl (fun k_ hK => ?_) (AllReadyH.nil)
   go_simp
   have hq := (Below.refl _ r0).alloc (Nat.le_refl _) (.cells #[.string x.lab] 9)
   have fg := at_push r0 (.cells #[.string x.lab] 9)
   have hp := Kr.of_below (r := K.r) (n := K.n) (P0.out.trans (hq.mono P0.out.size)) HB2.out
   refine hK.out _ _ (HBX.out _ hp) (fun _ => ?_)
   clear hK hp
   try simp only [Act.put, z1, z2, z3, z4, z5, z6]
   obtain ⟨ga, hga⟩ : ∃ y, r0.heap.size = y := ⟨_, rfl⟩
   obtain ⟨r1, hu2⟩ : ∃ y, r0.alloc (.cells #[.string x.lab] 9) = y := ⟨_, rfl⟩
   rw [hu2] at fg hq ⊢
   rw [hga] at fg ⊢
   have P1 := Lib.hid (P0.out.trans (hq.mono P0.out.size))
   have FG := Lib.hid fg
   clear fg hq hu2 hga
   refine wpAnyH_ready (rs := [8]) (by kernel_rfl) (by simp) ?_
   refine AllReadyH.cons rfl (fun k_ hK => ?_) (AllReadyH.nil)
   have hown := (HRN.out _ P1.out).lab
   refine step_append_own rfl (.tmp 36) (.tmp 39) rfl (base := B) Tryd.underlying41 hi9 hz9 hs9 hb9 rfl (by decide) (v := .slice Av labs.length cv) (by simp [Act.eval]) hown (ad := ⟨ga, 0, none⟩) (m := 1) (c := 1) (news := [.string x.lab]) (by simp [Act.eval]) rfl (row_cells8 FG.out) (by simp [Value.oneCell']) (by have := HG.out.2.2.2.2.2; unfold maxLen; omega) (by have := HG.out.2.2.2.2.2; omega) (Nat.le_trans HB2.out P1.out.size) ?_
   intro v' w6 hown' hgrow' hat'
   obtain ⟨A6, c6, e6⟩ := row_form hown'
   subst e6
   have FIN := Lib.hid ((HRN.out _ P1.out).appended (Nat.le_trans HB2.out P1.out.size) hown' hgrow')
   have K6 := Lib.hid ((Kr.of_below P1.out HB2.out).trans (Kr.grownL (r := K.r) (n := K.n) hgrow' hown (Nat.le_trans HB2.out P1.out.size)))
   have K11 := Lib.hid ((Kr.of_below P1.out HB2.out).trans FIN.out.2.2.2)
   clear hown hown' hat' hgrow'
   refine hK.out _ _ (HBX.out _ K6.out) (fun _ => ?_)
   clear hK
   try simp only [Act.put, z1, z2, z3, z4, z5, z6]
   refine tkI (i := 9) (v := .pointer (some ⟨K.R, 0, none⟩)) rfl ⟨by rfl, ?_⟩ (HBX.out _ K6.out) ?_
   ·intro ww hSw
    obtain ⟨hs0, hs1, hs2⟩ := hSw
    go_simp
   try simp only [Act.put, z1, z2, z3, z4, z5, z6]
   refine tkI (i := 10) (v := .pointer (some ⟨K.R, 0, none⟩)) rfl ⟨by rfl, ?_⟩ (HBX.out _ K6.out) ?_
   ·intro ww hSw
    obtain ⟨hs0, hs1, hs2⟩ := hSw
    go_simp
   try simp only [Act.put, z1, z2, z3, z4, z5, z6]
   refine wpAnyH_ready (rs := [11]) (by kernel_rfl) (by simp) ?_
   refine AllReadyH.cons rfl (fun k_ hK => ?_) (AllReadyH.nil)
   obtain ⟨q0, q1, -, -⟩ := FIN.out
   go_simp
   clear q0 q1
   refine hK.out _ _ (HBX.out _ K11.out) (fun _ => ?_)
   clear hK
   try simp only [Act.put, z1, z2, z3, z4, z5, z6]
   refine ⟨by kernel_rfl, ?_⟩
   refine NoPanic.normal ?_
   exact ⟨rfl, A6, c6, ga, rfl, (HD.out.d3 HG.out.2.2.2.2.1).kr_to H.out K11.out FIN.out.2.2.1⟩
  ·go_simp
   have hq := (Below.refl _ r0).alloc (Nat.le_refl _) (.cells #[.string x.lab] 9)
   have fg := at_push r0 (.cells #[.string x.lab] 9)
   have hp := Kr.of_below (r := K.r) (n := K.n) (P0.out.trans (hq.mono P0.out.size)) HB2.out
   refine hK.out _ _ (HBX.out _ hp) (fun _ => ?_)
   clear hK hp
   try simp only [Act.put, z1, z2, z3, z4, z5, z6]
   obtain ⟨ga, hga⟩ : ∃ y, r0.heap.size = y := ⟨_, rfl⟩
   obtain ⟨r1, hu2⟩ : ∃ y, r0.alloc (.cells #[.string x.lab] 9) = y := ⟨_, rfl⟩
   rw [hu2] at fg hq ⊢
   rw [hga] at fg ⊢
   have P1 := Lib.hid (P0.out.trans (hq.mono P0.out.size))
   have FG := Lib.hid fg
   clear fg hq hu2 hga
   refine wpAnyH_ready (rs := [4]) (by kernel_rfl) (by simp) ?_
   refine AllReadyH.cons rfl (fun k_ hK => ?_) (AllReadyH.nil)
   have q1 := (HRN.out _ P1.out).cells.1
   go_simp
   clear q1
   refine hK.out _ _ (HBX.out _ (Kr.of_below P1.out HB2.out)) (fun _ => ?_)
   clear hK
   try simp only [Act.put, z1, z2, z3, z4, z5, z6]
   refine wpAnyH_ready (rs := [8]) (by kernel_rfl) (by simp) ?_
   refine AllReadyH.cons rfl (fun k_ hK => ?_) (AllReadyH.nil)
   have hown := (HRN.out _ P1.out).lab
   refine step_append_own rfl (.tmp 36) (.tmp 39) rfl (base := B) Tryd.underlying41 hi9 hz9 hs9 hb9 rfl (by decide) (v := .slice Av labs.length cv) (by simp [Act.eval]) hown (ad := ⟨ga, 0, none⟩) (m := 1) (c := 1) (news := [.string x.lab]) (by simp [Act.eval]) rfl (row_cells8 FG.out) (by simp [Value.oneCell']) (by have := HG.out.2.2.2.2.2; unfold maxLen; omega) (by have := HG.out.2.2.2.2.2; omega) (Nat.le_trans HB2.out P1.out.size) ?_
   intro v' w6 hown' hgrow' hat'
   obtain ⟨A6, c6, e6⟩ := row_form hown'
   subst e6
   have FIN := Lib.hid ((HRN.out _ P1.out).appended (Nat.le_trans HB2.out P1.out.size) hown' hgrow')
   have K6 := Lib.hid ((Kr.of_below P1.out HB2.out).trans (Kr.grownL (r := K.r) (n := K.n) hgrow' hown (Nat.le_trans HB2.out P1.out.size)))
   have K11 := Lib.hid ((Kr.of_below P1.out HB2.out).trans FIN.out.2.2.2)
   clear hown hown' hat' hgrow'
   refine hK.out _ _ (HBX.out _ K6.out) (fun _ => ?_)
   clear hK
   try simp only [Act.put, z1, z2, z3, z4, z5, z6]
   refine tkI (i := 9) (v := .pointer (some ⟨K.R, 0, none⟩)) rfl ⟨by rfl, ?_⟩ (HBX.out _ K6.out) ?_
   ·intro ww hSw
    obtain ⟨hs0, hs1, hs2⟩ := hSw
    go_simp
   try simp only [Act.put, z1, z2, z3, z4, z5, z6]
   refine tkI (i := 10) (v := .pointer (some ⟨K.R, 0, none⟩)) rfl ⟨by rfl, ?_⟩ (HBX.out _ K6.out) ?_
   ·intro ww hSw
    obtain ⟨hs0, hs1, hs2⟩ := hSw
    go_simp
   try simp only [Act.put, z1, z2, z3, z4, z5, z6]
   refine wpAnyH_ready (rs := [11]) (by kernel_rfl) (by simp) ?_
   refine AllReadyH.cons rfl (fun k_ hK => ?_) (AllReadyH.nil)
   obtain ⟨q0, q1, -, -⟩ := FIN.out
   go_simp
   clear q0 q1
   refine hK.out _ _ (HBX.out _ K11.out) (fun _ => ?_)
   clear hK
   try simp only [Act.put, z1, z2, z3, z4, z5, z6]
   refine ⟨by kernel_rfl, ?_⟩
   refine NoPanic.normal ?_
   exact ⟨rfl, A6, c6, ga, rfl, (HD.out.d3 HG.out.2.2.2.2.1).kr_to H.out K11.out FIN.out.2.2.1⟩
 rintro e a' W3 ⟨rfl, A6, c6, ga, ha, hD⟩
 dsimp only at ha
 subst ha
 have HD3 := Lib.hid hD
 clear hD HBX HRN
 go_upto_region 5 with (fail)
 refine Code.wp_mono (Q := fun e a' W' => e = .normal ∧ a' = { tmps := #[.pointer (some ⟨K.R, 0, none⟩), .agg #[.int .i64 x.kind, .string x.lab, .slice A nk c], undef, .pointer (some ⟨w.heap.size, 0, none⟩), .pointer (some ⟨w.heap.size + 1, 0, none⟩), .int .i64 ((K.n : Int) + 1), .pointer (some ⟨g6, 0, none⟩), undef, undef, undef, undef, undef, undef, undef, undef, undef, undef, .pointer (some ⟨K.R, 0, none⟩), .pointer (some ⟨K.R, 0, none⟩), .pointer (some ⟨K.R, 3, none⟩), .slice (some ⟨K.g, 0, none⟩) (K.n + 1) K.c, .int .i64 ((K.n : Int) + 1), .int .i64 ((K.n : Int) + 1), .slice (some ⟨g1, 0, none⟩) (K.n + 1) (K.n + 1), .int .i64 ((K.n : Int) + 1), .slice (some ⟨g2, 0, none⟩) (K.n + 1) (K.n + 1), .agg #[.int .i64 x.kind, .string x.lab, .slice A nk c], .bool x.emp, .agg #[.slice (some ⟨g1, 0, none⟩) (K.n + 1) (K.n + 1), .slice (some ⟨g2, 0, none⟩) (K.n + 1) (K.n + 1), .bool x.emp], .pointer (some ⟨w.heap.size, 0, none⟩), .int .i64 x.kind, .bool true, .pointer (some ⟨K.R, 0, none⟩), .pointer (some ⟨K.R, 0, none⟩), .pointer (some ⟨K.R, 0, none⟩), .pointer (some ⟨K.R, 0, none⟩), .slice Av labs.length cv, .pointer (some ⟨w.heap.size, 1, none⟩), .string x.lab, .slice (some ⟨ga, 0, none⟩) 1 1, .slice A6 (labs.length + 1) c6, .pointer (some ⟨K.R, 0, none⟩), .pointer (some ⟨K.R, 0, none⟩), .pointer (some ⟨g6, 0, none⟩), .slice (some ⟨g1, 0, none⟩) (K.n + 1) (K.n + 1), .pointer (some ⟨K.R, 0, none⟩), .pointer (some ⟨K.R, 0, none⟩), .pointer (some ⟨K.R, 0, none⟩), .slice A6 (labs.length + 1) c6, .int .i64 ((labs.length : Int) + 1), .int .i64 (labs.length : Int), .pointer (some ⟨g1, labs.length, none⟩), undef, undef, undef, undef, undef, undef, undef, undef, undef, undef, undef, undef, undef, undef, undef, undef, undef, undef, undef, undef, undef, undef, undef, undef, undef, undef, undef, undef, undef, undef, undef, undef, undef, undef, undef, undef, undef, undef, undef, undef, undef, undef, undef, undef, undef, undef, undef, undef, undef, undef, undef, undef, undef, undef, undef, undef, undef, undef, undef, undef, undef, undef, undef, undef, undef, undef, undef, undef, undef, undef, undef, undef, undef, undef, undef, undef, undef, undef, undef, undef, undef, undef, undef, undef, undef, undef, undef, undef, undef, undef, undef, undef, undef, undef, undef, undef, undef, undef, undef, undef, undef, undef, undef, undef, undef, undef, undef, undef, undef, undef, undef, undef, undef, undef, undef, undef, undef, undef, undef, undef, undef, undef, undef, undef, undef, undef, undef, undef, undef, undef, undef, undef, undef, undef, undef, undef, undef, undef, undef], defers := [] } ∧ D3 B w W' K x nk c A (.slice A6 (labs.length + 1) c6) (labs ++ [x.lab]) P g1 g2 g6 (fun j => j = labs.length) (fun _ => False)) ?_ ?_
 rotate_left
 ·obtain ⟨r0, hr0⟩ : ∃ y, W3.drew = y := ⟨_, rfl⟩
  have S0 := Lib.hid (show r0.cell? ⟨g6, 0, none⟩ = some (.slice (some ⟨g1, 0, none⟩) (K.n + 1) (K.n + 1)) ∧ r0.cell? ⟨K.R, 0, none⟩ = some (.slice A6 (labs.length + 1) c6) by rw [← hr0]; exact ⟨(three_cells HD3.out.p6).1.1, HD3.out.rn.cells.1⟩)
  have D0 := Lib.hid (show D3 B w r0 K x nk c A (.slice A6 (labs.length + 1) c6) (labs ++ [x.lab]) P g1 g2 g6 (fun _ => False) (fun _ => False) by rw [← hr0]; exact HD3.out.drew HG.out.2.2.2.2.1)
  refine wp_region_noPanic ?_
  refine wp_region_held_drew (S := fun W => W.cell? ⟨g6, 0, none⟩ = some (.slice (some ⟨g1, 0, none⟩) (K.n + 1) (K.n + 1)) ∧ W.cell? ⟨K.R, 0, none⟩ = some (.slice A6 (labs.length + 1) c6)) (by kernel_rfl) (by rw [hr0]; exact S0.out) (fun hHeld => ?_)
  clear hHeld
  rw [hr0]
  clear hr0
  refine tkI (i := 0) (v := .pointer (some ⟨g6, 0, none⟩)) rfl ⟨by rfl, ?_⟩ S0.out ?_
  ·intro ww hSw
   obtain ⟨hs0, hs1⟩ := hSw
   go_simp
  try simp only [Act.put, z1, z2, z3, z4, z5, z6]
  refine tkI (i := 1) (v := .slice (some ⟨g1, 0, none⟩) (K.n + 1) (K.n + 1)) rfl ⟨by rfl, ?_⟩ S0.out ?_
  ·intro ww hSw
   obtain ⟨hs0, hs1⟩ := hSw
   go_simp
  try simp only [Act.put, z1, z2, z3, z4, z5, z6]
  refine tkI (i := 2) (v := .pointer (some ⟨K.R, 0, none⟩)) rfl ⟨by rfl, ?_⟩ S0.out ?_
  ·intro ww hSw
   obtain ⟨hs0, hs1⟩ := hSw
   go_simp
  try simp only [Act.put, z1, z2, z3, z4, z5, z6]
  refine tkI (i := 3) (v := .pointer (some ⟨K.R, 0, none⟩)) rfl ⟨by rfl, ?_⟩ S0.out ?_
  ·intro ww hSw
   obtain ⟨hs0, hs1⟩ := hSw
   go_simp
  try simp only [Act.put, z1, z2, z3, z4, z5, z6]
  refine tkI (i := 4) (v := .pointer (some ⟨K.R, 0, none⟩)) rfl ⟨by rfl, ?_⟩ S0.out ?_
  ·intro ww hSw
   obtain ⟨hs0, hs1⟩ := hSw
   go_simp
  try simp only [Act.put, z1, z2, z3, z4, z5, z6]
  refine tkI (i := 5) (v := .slice A6 (labs.length + 1) c6) rfl ⟨by rfl, ?_⟩ S0.out ?_
  ·intro ww hSw
   obtain ⟨hs0, hs1⟩ := hSw
   go_simp
  try simp only [Act.put, z1, z2, z3, z4, z5, z6]
  refine tkI (i := 6) (v := .int .i64 ((labs.length : Int) + 1)) rfl ⟨by rfl, ?_⟩ S0.out ?_
  ·intro ww hSw
   obtain ⟨hs0, hs1⟩ := hSw
   go_simp
  try simp only [Act.put, z1, z2, z3, z4, z5, z6]
  refine tkI (i := 7) (v := .int .i64 (labs.length : Int)) rfl ⟨by rfl, ?_⟩ S0.out ?_
  ·intro ww hSw
   obtain ⟨hs0, hs1⟩ := hSw
   have hwr := HWR.out
   go_simp
  try simp only [Act.put, z1, z2, z3, z4, z5, z6]
  refine tkI (i := 8) (v := .pointer (some ⟨g1, labs.length, none⟩)) rfl ⟨by rfl, ?_⟩ S0.out ?_
  ·intro ww hSw
   obtain ⟨hs0, hs1⟩ := hSw
   have hlt := HLT.out
   go_simp
  try simp only [Act.put, z1, z2, z3, z4, z5, z6]
  refine wpAnyH_ready (rs := [9]) (by kernel_rfl) (by simp) ?_
  refine AllReadyH.cons rfl (fun k_ hK => ?_) (AllReadyH.nil)
  have q0 := D0.out.f1.flag (j := labs.length) HLE.out
  have q1 := D0.out.f1.frozen labs.length
  generalize pB _ = old at q0
  go_simp
  clear q0 q1
  have D1 := Lib.hid (D0.out.set1 (Q := fun j => j = labs.length) (D0.out.f1.ne H.out) HD.out.ne.symm HG.out.2.2.2.2.1 HLE.out rfl (fun j' _ hn => ⟨fun h => h.elim, fun h => absurd h hn⟩))
  refine hK.out _ _ ⟨(three_cells D1.out.p6).1.1, D1.out.rn.cells.1⟩ (fun _ => ?_)
  clear hK
  try simp only [Act.put, z1, z2, z3, z4, z5, z6]
  refine ⟨by kernel_rfl, ?_⟩
  refine NoPanic.normal ?_
  exact ⟨rfl, rfl, D1.out⟩
 rintro e a' W4 ⟨rfl, ha, hD⟩
 dsimp only at ha
 subst ha
 have HD4 := Lib.hid hD
 clear hD
 go_upto_region 6 with (fail)
 refine Code.wp_mono (Q := fun e a' W' => e = .normal ∧ a' = { tmps := #[.pointer (some ⟨K.R, 0, none⟩), .agg #[.int .i64 x.kind, .string x.lab, .slice A nk c], undef, .pointer (some ⟨w.heap.size, 0, none⟩), .pointer (some ⟨w.heap.size + 1, 0, none⟩), .int .i64 ((K.n : Int) + 1), .pointer (some ⟨g6, 0, none⟩), undef, undef, undef, undef, undef, undef, undef, undef, undef, undef, .pointer (some ⟨K.R, 0, none⟩), .pointer (some ⟨K.R, 0, none⟩), .pointer (some ⟨K.R, 3, none⟩), .slice (some ⟨K.g, 0, none⟩) (K.n + 1) K.c, .int .i64 ((K.n : Int) + 1), .int .i64 ((K.n : Int) + 1), .slice (some ⟨g1, 0, none⟩) (K.n + 1) (K.n + 1), .int .i64 ((K.n : Int) + 1), .slice (some ⟨g2, 0, none⟩) (K.n + 1) (K.n + 1), .agg #[.int .i64 x.kind, .string x.lab, .slice A nk c], .bool x.emp, .agg #[.slice (some ⟨g1, 0, none⟩) (K.n + 1) (K.n + 1), .slice (some ⟨g2, 0, none⟩) (K.n + 1) (K.n + 1), .bool x.emp], .pointer (some ⟨w.heap.size, 0, none⟩), .int .i64 x.kind, .bool true, .pointer (some ⟨K.R, 0, none⟩), .pointer (some ⟨K.R, 0, none⟩), .pointer (some ⟨K.R, 0, none⟩), .pointer (some ⟨K.R, 0, none⟩), .slice Av labs.length cv, .pointer (some ⟨w.heap.size, 1, none⟩), .string x.lab, .slice (some ⟨ga, 0, none⟩) 1 1, .slice A6 (labs.length + 1) c6, .pointer (some ⟨K.R, 0, none⟩), .pointer (some ⟨K.R, 0, none⟩), .pointer (some ⟨g6, 0, none⟩), .slice (some ⟨g1, 0, none⟩) (K.n + 1) (K.n + 1), .pointer (some ⟨K.R, 0, none⟩), .pointer (some ⟨K.R, 0, none⟩), .pointer (some ⟨K.R, 0, none⟩), .slice A6 (labs.length + 1) c6, .int .i64 ((labs.length : Int) + 1), .int .i64 (labs.length : Int), .pointer (some ⟨g1, labs.length, none⟩), .pointer (some ⟨g6, 1, none⟩), .slice (some ⟨g2, 0, none⟩) (K.n + 1) (K.n + 1), .pointer (some ⟨K.R, 0, none⟩), .pointer (some ⟨K.R, 0, none⟩), .pointer (some ⟨K.R, 0, none⟩), .slice A6 (labs.length + 1) c6, .int .i64 ((labs.length : Int) + 1), .int .i64 (labs.length : Int), .pointer (some ⟨g2, labs.length, none⟩), undef, undef, undef, undef, undef, undef, undef, undef, undef, undef, undef, undef, undef, undef, undef, undef, undef, undef, undef, undef, undef, undef, undef, undef, undef, undef, undef, undef, undef, undef, undef, undef, undef, undef, undef, undef, undef, undef, undef, undef, undef, undef, undef, undef, undef, undef, undef, undef, undef, undef, undef, undef, undef, undef, undef, undef, undef, undef, undef, undef, undef, undef, undef, undef, undef, undef, undef, undef, undef, undef, undef, undef, undef, undef, undef, undef, undef, undef, undef, undef, undef, undef, undef, undef, undef, undef, undef, undef, undef, undef, undef, undef, undef, undef, undef, undef, undef, undef, undef, undef, undef, undef, undef, undef, undef, undef, undef, undef, undef, undef, undef, undef, undef, undef, undef, undef, undef, undef, undef, undef, undef, undef, undef, undef, undef, undef, undef, undef, undef, undef], defers := [] } ∧ D3 B w W' K x nk c A (.slice A6 (labs.length + 1) c6) (labs ++ [x.lab]) P g1 g2 g6 (fun j => j = labs.length) (fun j => j = labs.length)) ?_ ?_
 rotate_left
 ·obtain ⟨r0, hr0⟩ : ∃ y, W4.drew = y := ⟨_, rfl⟩
  have S0 := Lib.hid (show r0.cell? ⟨g6, 1, none⟩ = some (.slice (some ⟨g2, 0, none⟩) (K.n + 1) (K.n + 1)) ∧ r0.cell? ⟨K.R, 0, none⟩ = some (.slice A6 (labs.length + 1) c6) by rw [← hr0]; exact ⟨(three_cells HD4.out.p6).1.2.1, HD4.out.rn.cells.1⟩)
  have D0 := Lib.hid (show D3 B w r0 K x nk c A (.slice A6 (labs.length + 1) c6) (labs ++ [x.lab]) P g1 g2 g6 (fun j => j = labs.length) (fun _ => False) by rw [← hr0]; exact HD4.out.drew HG.out.2.2.2.2.1)
  refine wp_region_noPanic ?_
  refine wp_region_held_drew (S := fun W => W.cell? ⟨g6, 1, none⟩ = some (.slice (some ⟨g2, 0, none⟩) (K.n + 1) (K.n + 1)) ∧ W.cell? ⟨K.R, 0, none⟩ = some (.slice A6 (labs.length + 1) c6)) (by kernel_rfl) (by rw [hr0]; exact S0.out) (fun hHeld => ?_)
  clear hHeld
  rw [hr0]
  clear hr0
  refine tkI (i := 0) (v := .pointer (some ⟨g6, 1, none⟩)) rfl ⟨by rfl, ?_⟩ S0.out ?_
  ·intro ww hSw
   obtain ⟨hs0, hs1⟩ := hSw
   go_simp
  try simp only [Act.put, z1, z2, z3, z4, z5, z6]
  refine tkI (i := 1) (v := .slice (some ⟨g2, 0, none⟩) (K.n + 1) (K.n + 1)) rfl ⟨by rfl, ?_⟩ S0.out ?_
  ·intro ww hSw
   obtain ⟨hs0, hs1⟩ := hSw
   go_simp
  try simp only [Act.put, z1, z2, z3, z4, z5, z6]
  refine tkI (i := 2) (v := .pointer (some ⟨K.R, 0, none⟩)) rfl ⟨by rfl, ?_⟩ S0.out ?_
  ·intro ww hSw
   obtain ⟨hs0, hs1⟩ := hSw
   go_simp
  try simp only [Act.put, z1, z2, z3, z4, z5, z6]
  refine tkI (i := 3) (v := .pointer (some ⟨K.R, 0, none⟩)) rfl ⟨by rfl, ?_⟩ S0.out ?_
  ·intro ww hSw
   obtain ⟨hs0, hs1⟩ := hSw
   go_simp
  try simp only [Act.put, z1, z2, z3, z4, z5, z6]
  refine tkI (i := 4) (v := .pointer (some ⟨K.R, 0, none⟩)) rfl ⟨by rfl, ?_⟩ S0.out ?_
  ·intro ww hSw
   obtain ⟨hs0, hs1⟩ := hSw
   go_simp
  try simp only [Act.put, z1, z2, z3, z4, z5, z6]
  refine tkI (i := 5) (v := .slice A6 (labs.length + 1) c6) rfl ⟨by rfl, ?_⟩ S0.out ?_
  ·intro ww hSw
   obtain ⟨hs0, hs1⟩ := hSw
   go_simp
  try simp only [Act.put, z1, z2, z3, z4, z5, z6]
  refine tkI (i := 6) (v := .int .i64 ((labs.length : Int) + 1)) rfl ⟨by rfl, ?_⟩ S0.out ?_
  ·intro ww hSw
   obtain ⟨hs0, hs1⟩ := hSw
   go_simp
  try simp only [Act.put, z1, z2, z3, z4, z5, z6]
  refine tkI (i := 7) (v := .int .i64 (labs.length : Int)) rfl ⟨by rfl, ?_⟩ S0.out ?_
  ·intro ww hSw
   obtain ⟨hs0, hs1⟩ := hSw
   have hwr := HWR.out
   go_simp
  try simp only [Act.put, z1, z2, z3, z4, z5, z6]
  refine tkI (i := 8) (v := .pointer (some ⟨g2, labs.length, none⟩)) rfl ⟨by rfl, ?_⟩ S0.out ?_
  ·intro ww hSw
   obtain ⟨hs0, hs1⟩ := hSw
   have hlt := HLT.out
   go_simp
  try simp only [Act.put, z1, z2, z3, z4, z5, z6]
  refine wpAnyH_ready (rs := [9]) (by kernel_rfl) (by simp) ?_
  refine AllReadyH.cons rfl (fun k_ hK => ?_) (AllReadyH.nil)
  have q0 := D0.out.f2.flag (j := labs.length) HLE.out
  have q1 := D0.out.f2.frozen labs.length
  generalize pB _ = old at q0
  go_simp
  clear q0 q1
  have D1 := Lib.hid (D0.out.set2 (Q := fun j => j = labs.length) (D0.out.f2.ne H.out) HD.out.ne HG.out.2.2.2.2.1 HLE.out rfl (fun j' _ hn => ⟨fun h => h.elim, fun h => absurd h hn⟩))
  refine hK.out _ _ ⟨(three_cells D1.out.p6).1.2.1, D1.out.rn.cells.1⟩ (fun _ => ?_)
  clear hK
  try simp only [Act.put, z1, z2, z3, z4, z5, z6]
  refine ⟨by kernel_rfl, ?_⟩
  refine NoPanic.normal ?_
  exact ⟨rfl, rfl, D1.out⟩
 rintro e a' W5 ⟨rfl, ha, hD⟩
 dsimp only at ha
 subst ha
 have HD5 := Lib.hid hD
 clear hD
 go_upto_region 7 with (fail)
 obtain ⟨⟨p0, p1, p2⟩, -⟩ := three_cells HD5.out.p6
 obtain ⟨⟨b0, b1, b2⟩, f0, f1, f2⟩ := three_cells HD5.out.rb
 go_wp2_with fail
 clear p0 p1 p2 b0 b1 b2 f0 f1 f2
 have F := HD5.out.fin HG.out.2.2.2.2.1 (.slice (some ⟨g1, 0, none⟩) (K.n + 1) (K.n + 1)) (.slice (some ⟨g2, 0, none⟩) (K.n + 1) (K.n + 1)) (.bool x.emp)
 unfold set3' at F
 obtain ⟨F1, F2, F3, F4, F5⟩ := F
 obtain ⟨⟨e0, e1, e2⟩, -⟩ := three_cells F5
 try simp only [Exit.inBlock, Exit.then]
 refine bodyPost_ret (v := .agg #[.slice (some ⟨g1, 0, none⟩) (K.n + 1) (K.n + 1), .slice (some ⟨g2, 0, none⟩) (K.n + 1) (K.n + 1), .bool x.emp]) (by simp [results, Tryd.results49, go_sem, e0, e1, e2]) rfl ?_
 have hps : x.ps = [x.lab] := by rw [X.ps_eq, if_pos H1.out]
 refine ⟨.slice A6 (labs.length + 1) c6, g1, g2, rfl, ?_, F2.ext (fun j _ => ?_), F3.ext (fun j _ => ?_), F4⟩
 ·rw [hps]
  exact F1.ext (fun i j _ _ => by rw [X.fol_eq, if_pos H1.out]; simp)
 ·rw [X.fst_eq, if_pos H1.out, decide_eq_true_eq]; omega
 ·rw [X.lst_eq, if_pos H1.out, decide_eq_true_eq]; omega
end Go.Proofs.YtnccgaanfjaimaaDoor
