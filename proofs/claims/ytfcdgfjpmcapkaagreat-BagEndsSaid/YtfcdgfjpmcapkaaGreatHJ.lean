/- Walk of Pop: the first one is taken. -/
import Derived.Test.YtfcdgfjpmcapkaaGreatHI
namespace Go.Proofs.YtfcdgfjpmcapkaaGreat
open Go.ChangeShapes Go.WideShapes Go.ChangeAt Go.RowKit
set_option linter.unusedVariables false

def PopR (w : World) (b : Nat) (sv : Value) (L : List It) (e : Ending) (w' : World) : Prop :=
  e = .returned (.tuple #[.agg #[.int .i64 (g L 0).1, .int .i64 (g L 0).2], .bool (decide (0 < L.length))]) ∧ Turn w b sv (cutL L) w'

theorem res_cells {w : World} {n : Nat} {u v : Value} (h : w.heap[n]? = some (.cells #[u, v] 74 (0, 0))) :
    w.cell? ⟨n, 0, none⟩ = some u ∧ w.cell? ⟨n, 1, none⟩ = some v ∧ w.frozen? ⟨n, 0, none⟩ = false ∧ w.frozen? ⟨n, 1, none⟩ = false := by
  refine ⟨?_, ?_, ?_, ?_⟩
  · simp [World.cell?, h]
  · simp [World.cell?, h]
  · simp [World.frozen?, h]
  · simp [World.frozen?, h]

set_option maxRecDepth 100000 in
set_option maxHeartbeats 1000000 in
theorem pop_none {w : World} {b : Nat} {sv : Value} {L : List It} (h : Hb w b sv L) (h0 : L.length = 0) : Calls Tryz.prog 51 #[.pointer (some ⟨b, 0, none⟩)] w (PopR w b sv L) := by
  have e : L = [] := List.eq_nil_of_length_eq_zero h0
  subst e
  have H := Lib.hid h
  clear h h0
  go_enter Tryz.func51, Tryz.ntmps51
  go_wp2_with fail
  refine (first_any (H.out.below ((Below.refl _ _).alloc (Nat.le_refl _) _)) (by simp)).mono ?_
  rintro e w1 ⟨rfl, hb1⟩
  have hz : w.heap.size < w1.heap.size := by have := hb1.size; simp at this; omega
  have hblk : w1.heap[w.heap.size]? = some (.cells #[.int .i64 0, .int .i64 0] 74 (0, 0)) := (hb1.block _ (by simp)).trans (heap_alloc_new w _)
  obtain ⟨r0, r1, r2, r3⟩ := res_cells hblk
  have hB : Below w.heap.size w w1 := ((Below.refl _ w).alloc (Nat.le_refl _) _).trans (hb1.mono (by simp))
  have HB := Lib.hid hB
  clear hb1 hB hblk
  go_wp2_with fail
  refine bodyPost_ret (v := .tuple #[.agg #[.int .i64 0, .int .i64 0], .bool false]) (by simp [results, Tryz.results51, go_sem, hz, r0, r1, r2, r3]) rfl ⟨rfl, ?_⟩
  have hk : Below w.heap.size w (((w1.setCell ⟨w.heap.size, 0, none⟩ (.int .i64 0)).setCell ⟨w.heap.size, 1, none⟩ (.int .i64 0)).alloc (.cells #[.int .i64 (g [] 0).1, .int .i64 (g [] 0).2] 74)) := by
    refine Below.alloc (Below.setCell (Below.setCell HB.out ?_ _) ?_ _) ?_ _
    · exact Nat.le_refl _
    · exact Nat.le_refl _
    · simp only [World.size_setCell]; omega
  exact ⟨sv, [], H.out.below hk, List.Perm.refl _, fun i _ hi => absurd hi (by simp), fun g hg => .inl hg, Keep.of_below hk⟩

/-- the heap behind the drawn store and the shorter row: its items are those of cutL -/
theorem hb_cut {W : World} {b gg m c : Nat} {L : List It} {y : It} (h : Hb W b (.slice (some ⟨gg, 0, none⟩) (m + 1) c) L) (hm : L.length = m + 1) (hy : g L m = y) (hbr : b ≠ gg) :
    Hb ((((W.setCell ⟨gg, 0, none⟩ (.int .i64 y.1)).setCell ⟨gg, 1, none⟩ (.int .i64 y.2)).drew).setCell ⟨b, 1, none⟩ (.slice (some ⟨gg, 0, none⟩) m c)) b (.slice (some ⟨gg, 0, none⟩) m c) (cutL L) := by
  have hrow := h.row
  rw [hm] at hrow
  have r1 := own_set hrow (k := 0) (by omega) y
  have r2 := own_take r1 (k := m) (by omega)
  have hc : cutL L = (L.set 0 y).take m := by unfold cutL; rw [hm, show m + 1 - 1 = m by omega, hy]
  rw [hc]
  have hb3 : (((W.setCell ⟨gg, 0, none⟩ (.int .i64 y.1)).setCell ⟨gg, 1, none⟩ (.int .i64 y.2)).drew).heap[b]? = some (.cells #[.pointer (some ⟨b, 0, none⟩), .slice (some ⟨gg, 0, none⟩) (m + 1) c] 102 (0, 0)) := by
    rw [show ∀ W : World, W.drew.heap = W.heap from fun _ => rfl, Below.heap_setCell _ _ _ _ hbr, Below.heap_setCell _ _ _ _ hbr]
    exact h.blk
  exact hb_put hb3 r2.drew rfl

set_option maxRecDepth 100000 in
set_option maxHeartbeats 1000000 in
theorem pop_some {w : World} {b : Nat} {sv : Value} {L : List It} (h : Hb w b sv L) (hh : Heap L) {m : Nat} (hm : L.length = m + 1) (hl : L.length ≤ 1000000) : Calls Tryz.prog 51 #[.pointer (some ⟨b, 0, none⟩)] w (PopR w b sv L) := by
  have H := Lib.hid h
  obtain ⟨x, hx⟩ : ∃ x, g L 0 = x := ⟨_, rfl⟩
  obtain ⟨y, hy⟩ : ∃ y, g L m = y := ⟨_, rfl⟩
  have hpos : 0 < L.length := by omega
  have hfst := first_any (h.below ((Below.refl _ _).alloc (Nat.le_refl _) (.cells #[.int .i64 0, .int .i64 0] 74))) (by unfold maxLen; omega)
  have hmx : m ≤ 1000000 := by omega
  have hco := cut_ord hh
  have hcp := cut_perm hpos
  have hcl := cut_len L
  have HCO := Lib.hid hco
  have HCP := Lib.hid hcp
  have HCL := Lib.hid hcl
  unfold FirstR at hfst
  unfold PopR
  rw [hx, decide_eq_true hpos] at hfst ⊢
  have HM := Lib.hid hm
  have HY := Lib.hid hy
  have HXX := Lib.hid hx
  obtain ⟨A, c, hsv, hf, hnc, hcm⟩ := row_form h.row
  rw [hm] at hsv
  obtain ⟨gg, rfl, _, hgl⟩ := hf (by omega)
  have HSV := Lib.hid hsv
  clear h hh hx hy hpos hco hcp hcl hsv hf
  have HL := Lib.hid hl
  have HNC := Lib.hid hnc
  have HCM := Lib.hid hcm
  clear hl hnc hcm hm
  go_enter Tryz.func51, Tryz.ntmps51
  go_wp2_with fail
  refine hfst.mono ?_
  rintro e w1 ⟨rfl, hb1⟩
  clear hfst
  have hz : w.heap.size < w1.heap.size := by have := hb1.size; simp at this; omega
  have hblk : w1.heap[w.heap.size]? = some (.cells #[.int .i64 0, .int .i64 0] 74 (0, 0)) := (hb1.block _ (by simp)).trans (heap_alloc_new w _)
  have hB : Below w.heap.size w w1 := ((Below.refl _ w).alloc (Nat.le_refl _) _).trans (hb1.mono (by simp))
  have HB := Lib.hid hB
  have HR := Lib.hid hblk
  have HZ := Lib.hid hz
  clear hb1 hB hblk hz
  have hx2 : (w1.alloc (.cells #[.int .i64 x.1, .int .i64 x.2] 74)).heap[w1.heap.size]? = some (.cells #[.int .i64 x.1, .int .i64 x.2] 74 (0, 0)) := heap_alloc_new w1 _
  have hr2 : (w1.alloc (.cells #[.int .i64 x.1, .int .i64 x.2] 74)).heap[w.heap.size]? = some (.cells #[.int .i64 0, .int .i64 0] 74 (0, 0)) := (Below.heap_alloc _ _ _ HZ.out).trans HR.out
  have hb2 : Below w.heap.size w (w1.alloc (.cells #[.int .i64 x.1, .int .i64 x.2] 74)) := HB.out.alloc (by have := HZ.out; omega) _
  obtain ⟨B, hBe⟩ : ∃ B, w1.heap.size = B := ⟨_, rfl⟩
  obtain ⟨R, hRe⟩ : ∃ R, w.heap.size = R := ⟨_, rfl⟩
  have hsz : B < (w1.alloc (.cells #[.int .i64 x.1, .int .i64 x.2] 74)).heap.size := by simp; omega
  have HX2 := Lib.hid hx2
  have HR2 := Lib.hid hr2
  have HB2 := Lib.hid hb2
  have HSZ := Lib.hid hsz
  have HBE := Lib.hid hBe
  have HRE := Lib.hid hRe
  clear hx2 hr2 hb2 hsz
  go_upto_region 4 with (fail)
  try rw [hBe]
  try rw [hRe]
  try rw [hBe] at HX2
  try rw [hRe] at HR2
  generalize w1.alloc (.cells #[.int .i64 x.1, .int .i64 x.2] 74) = W2 at *
  have h2 : Hb W2 b sv L := H.out.below HB2.out
  rw [HSV.out] at h2
  obtain ⟨c0, c1, c2⟩ := h2.cells
  have hrow := h2.row
  rw [HM.out] at hrow
  obtain ⟨k1, k2⟩ := row_at hrow (k := m) (by have := HM.out; omega)
  obtain ⟨f1, f2⟩ := row_at hrow (k := 0) (by have := HM.out; omega)
  rw [HY.out] at k1 k2
  rw [HXX.out] at f1 f2
  simp only [Nat.zero_mul, Nat.zero_add] at f1 f2
  have hbr : b ≠ gg := fun e => h2.br (by rw [e]; rfl)
  have hfz : ∀ k, W2.frozen? ⟨gg, k, none⟩ = false := by
    obtain ⟨_, cap, cur, e, _, hg, _⟩ := hrow.2.resolve_left (by simp)
    injection e with e1
    injection e1 with e1
    injection e1 with e1
    subst e1
    intro k
    simp [World.frozen?, hg]
  have z1 := hfz 0
  have z2 := hfz 1
  have H2 := Lib.hid h2
  have HBR := Lib.hid hbr
  clear hrow h2 hfz hBe hRe hbr
  have hmn : ((m + 1 : Nat) : Int) - 1 = (m : Int) := by omega
  have HMN := Lib.hid hmn
  clear hmn
  go_upto_region 5 with (fail)
  have hml : (m : Int) ≤ 1000000 := by omega
  have hmc : (m : Int) ≤ (c : Int) := by have := HNC.out; have := HM.out; omega
  go_region
  all_goals
    have hb6 := hb_cut H2.out HM.out HY.out HBR.out
    have HB6 := Lib.hid hb6
    obtain ⟨w5, hw5⟩ : ∃ w5, ((W2.setCell ⟨gg, 0, none⟩ (.int .i64 y.1)).setCell ⟨gg, 1, none⟩ (.int .i64 y.2)).drew = w5 := ⟨_, rfl⟩
    have hblk5 : w5.heap[b]? = some (.cells #[.pointer (some ⟨b, 0, none⟩), .slice (some ⟨gg, 0, none⟩) (m + 1) c] 102 (0, 0)) := by
      rw [← hw5, show ∀ W : World, W.drew.heap = W.heap from fun _ => rfl, Below.heap_setCell _ _ _ _ HBR.out, Below.heap_setCell _ _ _ _ HBR.out]
      exact H2.out.blk
    have hk5 : Keep (Off b (.slice (some ⟨gg, 0, none⟩) (m + 1) c)) W2 w5 := by
      rw [← hw5]
      refine Keep.drew (Keep.setCell (Keep.setCell (Keep.refl _ _) _ _ ?_) _ _ ?_) <;> exact fun k _ hp e => hp.2 (by rw [e]; rfl)
    rw [hw5] at HB6
    try rw [hw5]
    have HK5 := Lib.hid hk5
    have e1 : w5.cell? ⟨b, 1, none⟩ = some (.slice (some ⟨gg, 0, none⟩) (m + 1) c) := by simp [World.cell?, hblk5]
    have e2 : w5.frozen? ⟨b, 1, none⟩ = false := by simp [World.frozen?, hblk5]
    clear c0 c1 c2 k1 k2 f1 f2 z1 z2 hb6 hw5 hblk5 hk5
    go_upto_region 7 with (fail)
    have hk6 : Keep (Off b (.slice (some ⟨gg, 0, none⟩) (m + 1) c)) W2 (w5.setCell ⟨b, 1, none⟩ (.slice (some ⟨gg, 0, none⟩) m c)) := Keep.setCell HK5.out _ _ fun k _ hp => hp.1
    have HK6 := Lib.hid hk6
    have hll : (cutL L).length ≤ 1000000 := by have := HCL.out; have := HL.out; omega
    have HLL := Lib.hid hll
    clear hk6 e1 e2 hll
    generalize w5.setCell ⟨b, 1, none⟩ (.slice (some ⟨gg, 0, none⟩) m c) = W6 at *
    go_wp2_with fail
    refine (sink_any HB6.out 1 (by omega) HCO.out HLL.out).mono ?_
    rintro e w7 ⟨rfl, hk7, M, hb7, hp7, hh7⟩
    have HK7 := Lib.hid hk7
    have HB7 := Lib.hid hb7
    have HP7 := Lib.hid hp7
    have HH7 := Lib.hid hh7
    clear hk7 hb7 hp7 hh7
    go_wp2_with fail
    refine (shrink_any HB7.out (by have := HP7.out.length_eq; have := HLL.out; omega)).mono ?_
    rintro e w8 ⟨rfl, sv8, hb8, hl8, hk8⟩
    have hz2 : w.heap.size ≤ W2.heap.size := HB2.out.size
    have hB2 : B < W2.heap.size := HSZ.out
    have hRB : R < B := by have := HZ.out; have := HBE.out; have := HRE.out; omega
    have hkA : Keep (Off b (.slice (some ⟨gg, 0, none⟩) m c)) W6 w8 := HK7.out.off_trans (fun g hg => .inl hg) hk8
    have hkB : Keep (Off b (.slice (some ⟨gg, 0, none⟩) (m + 1) c)) W2 w8 := HK6.out.trans hkA fun k _ hp => ⟨hp.1, hp.2⟩
    have ob : Off b (.slice (some ⟨gg, 0, none⟩) (m + 1) c) B := by rw [← HSV.out]; exact H.out.off (by have := HBE.out; have := HZ.out; omega)
    have orr : Off b (.slice (some ⟨gg, 0, none⟩) (m + 1) c) R := by rw [← HSV.out]; exact H.out.off (by have := HRE.out; omega)
    have hx8 := (hkB.block B hB2 ob).trans HX2.out
    have hr8 := (hkB.block R (by omega) orr).trans HR2.out
    obtain ⟨x0, x1, x2, x3⟩ := res_cells hx8
    obtain ⟨r0, r1, r2, r3⟩ := res_cells hr8
    have hR8 : R < w8.heap.size := (Array.getElem?_eq_some_iff.1 hr8).1
    have HT : Turn w b sv (cutL L) ((w8.setCell ⟨R, 0, none⟩ (.int .i64 x.1)).setCell ⟨R, 1, none⟩ (.int .i64 x.2)) := by
      have hkR : Keep (fun k => k ≠ R) w8 ((w8.setCell ⟨R, 0, none⟩ (.int .i64 x.1)).setCell ⟨R, 1, none⟩ (.int .i64 x.2)) := by
        refine Keep.setCell (Keep.setCell (Keep.refl _ _) _ _ ?_) _ _ ?_ <;> exact fun k _ hp e => hp e
      have hl8' : Loc w sv sv8 := by
        intro g hg
        rcases hl8 g hg with h1 | h1
        · rw [HSV.out]; exact .inl h1
        · exact .inr (by have := HK6.out.size; have := HK7.out.size; omega)
      refine ⟨sv8, M, ?_, HP7.out, HH7.out, hl8', ?_⟩
      · refine hb8.keep hkR ?_
        rintro k hk (rfl | hs)
        · exact fun e => orr.1 e.symm
        · rintro rfl
          rcases hl8 _ hs with h1 | h1
          · exact orr.2 h1
          · have := HK6.out.size
            have := HK7.out.size
            omega
      · rw [HSV.out]
        refine ((Keep.of_below HB2.out).trans (q := Off b (.slice (some ⟨gg, 0, none⟩) (m + 1) c)) hkB (p := Off b (.slice (some ⟨gg, 0, none⟩) (m + 1) c)) fun _ _ h => h).trans hkR fun k hk _ e => ?_
        have := HRE.out
        omega
    have HTT := Lib.hid HT
    clear hb8 hl8 hk8 hz2 hB2 hRB hkA hkB ob orr hx8 hr8 HT
    go_wp2_with fail
    refine bodyPost_ret (v := .tuple #[.agg #[.int .i64 x.1, .int .i64 x.2], .bool true]) (by simp [results, Tryz.results51, go_sem, hR8, r0, r1, r2, r3]) rfl ⟨rfl, ?_⟩
    exact HTT.out

theorem pop_any {w : World} {b : Nat} {sv : Value} {L : List It} (h : Hb w b sv L) (hh : Heap L) (hl : L.length ≤ 1000000) : Calls Tryz.prog 51 #[.pointer (some ⟨b, 0, none⟩)] w (PopR w b sv L) := by
  by_cases h0 : L.length = 0
  · exact pop_none h h0
  · exact pop_some h hh (m := L.length - 1) (by omega) hl
end Go.Proofs.YtfcdgfjpmcapkaaGreat
