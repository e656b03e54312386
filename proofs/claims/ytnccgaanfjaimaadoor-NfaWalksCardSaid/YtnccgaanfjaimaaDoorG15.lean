/- Texts ZJ, ZK, PA, PB, one behind the other. -/
import Derived.Test.YtnccgaanfjaimaaDoorG9
import Derived.Test.YtnccgaanfjaimaaDoorG11
import Derived.Test.YtnccgaanfjaimaaDoorG13
import Derived.Test.YtnccgaanfjaimaaDoorG14
import Derived.Lib.QuietBelow
set_option linter.unusedSimpArgs false
set_option linter.unusedVariables false
namespace Go.Proofs.YtnccgaanfjaimaaDoor
open Go.ChangeShapes Go.WideShapes Go.ChangeAt Go.RowKit
set_option linter.unusedVariables false
set_option linter.unusedSimpArgs false

theorem addX_rest {x : X} {s : NS} (h1 : x.kind ≠ 1) (h2 : x.kind ≠ 2) : addX x s = if x.kind = 4 ∨ x.kind = 5 then (⟨(addA x.kids s 0 0).1.labs, lnk (addA x.kids s 0 0).1.fol (addA x.kids s 0 0).2.2 (addA x.kids s 0 0).2.1⟩, (addA x.kids s 0 0).2) else addA x.kids s 0 0 := by
  rw [addX_eq, if_neg h1, if_neg h2]

set_option maxRecDepth 100000 in
set_option maxHeartbeats 8000000 in
theorem add_rest {x : X} (hs : x.sz ≤ 24) (hk1 : x.kind ≠ 1) (hk2 : x.kind ≠ 2) (ih : ∀ y ∈ x.kids, AddC y) : AddC x := by
  intro M B N sv lv s la em w v hx hM hB hN hT hbd hpn
  obtain ⟨kv, rfl, hr⟩ := hx
  obtain ⟨A, c, rfl⟩ := hr.form
  have hpl : x.pn = pnL x.kids := by rw [X.pn_eq, if_neg hk1]
  rw [hpl] at hpn
  have hkl : x.kids.length ≤ 1000 := by have := len_szL x.kids; have := x.sz_eq; omega
  have hb1 : Below w.heap.size w (((w.alloc (.cells #[.int .i64 x.kind, .string x.lab, .slice A x.kids.length c] 25)).alloc (.cells #[.int .u32 0, .int .u32 0] 74)).alloc (.cells #[.int .u32 0, .int .u32 0] 74)) := (((Below.refl _ w).alloc (Nat.le_refl _) _).alloc (by simp) _).alloc (by simp; omega) _
  have hx0 : (((w.alloc (.cells #[.int .i64 x.kind, .string x.lab, .slice A x.kids.length c] 25)).alloc (.cells #[.int .u32 0, .int .u32 0] 74)).alloc (.cells #[.int .u32 0, .int .u32 0] 74)).heap[w.heap.size]? = some (.cells #[.int .i64 x.kind, .string x.lab, .slice A x.kids.length c] 25 (0, 0)) := (Below.heap_alloc _ _ _ (by simp; omega)).trans ((Below.heap_alloc _ _ _ (by simp)).trans (at_push w _))
  have hx1 : (((w.alloc (.cells #[.int .i64 x.kind, .string x.lab, .slice A x.kids.length c] 25)).alloc (.cells #[.int .u32 0, .int .u32 0] 74)).alloc (.cells #[.int .u32 0, .int .u32 0] 74)).heap[w.heap.size + 1]? = some (.cells #[.int .u32 0, .int .u32 0] 74 (0, 0)) := by
    refine (Below.heap_alloc _ _ _ (by simp)).trans ?_
    have h := at_push (w.alloc (.cells #[.int .i64 x.kind, .string x.lab, .slice A x.kids.length c] 25)) (.cells #[.int .u32 0, .int .u32 0] 74)
    rwa [World.size_alloc] at h
  have hx2 : (((w.alloc (.cells #[.int .i64 x.kind, .string x.lab, .slice A x.kids.length c] 25)).alloc (.cells #[.int .u32 0, .int .u32 0] 74)).alloc (.cells #[.int .u32 0, .int .u32 0] 74)).heap[w.heap.size + 1 + 1]? = some (.cells #[.int .u32 0, .int .u32 0] 74 (0, 0)) := by
    have h := at_push ((w.alloc (.cells #[.int .i64 x.kind, .string x.lab, .slice A x.kids.length c] 25)).alloc (.cells #[.int .u32 0, .int .u32 0] 74)) (.cells #[.int .u32 0, .int .u32 0] 74)
    rwa [World.size_alloc, World.size_alloc] at h
  have y0 := cell_of_row _ _ 0 _ 25 (0, 0) ((Below.heap_alloc (w.alloc (.cells #[.int .i64 x.kind, .string x.lab, .slice A x.kids.length c] 25)) (.cells #[.int .u32 0, .int .u32 0] 74) w.heap.size (by simp)).trans (at_push w _))
  simp only [List.getElem?_toArray, List.getElem?_cons_zero, List.getElem?_cons_succ] at y0
  have HX0 := Lib.hid hx0
  have HWH0 := Lib.hid (show Wh w B N sv lv s la em (w.heap.size + 1) (w.heap.size + 1 + 1) 0 0 _ from ⟨hN.bel hb1, Kn.of_below hb1 hB, hx1, hx2⟩)
  have HB := Lib.hid hB
  have HT := Lib.hid hT
  have HBD := Lib.hid hbd
  have HPN := Lib.hid hpn
  have HPOS := Lib.hid hN.pos
  have HM := Lib.hid hM
  have HIH := Lib.hid ih
  have HX := Lib.hid hr
  have HRES := Lib.hid (addX_rest (s := s) hk1 hk2)
  obtain ⟨n, hn⟩ : ∃ n, x.kids.length = n := ⟨_, rfl⟩
  have HN := Lib.hid hn
  unfold AddR
  rw [hn] at hkl hx0 HX0 HWH0 y0 ⊢
  generalize x.kids = ks at *
  clear hx1 hx2 hb1 hB hN hT hbd hpn hM ih hr hn hpl hs
  go_enter Tryd.func43, Tryd.ntmps43
  go_upto_region 7 with (fail)
  have y1 := cell_of_row _ _ 2 _ 25 (0, 0) hx0
  simp only [List.getElem?_toArray, List.getElem?_cons_zero, List.getElem?_cons_succ] at y1
  clear hx0
  go_upto_region 8 with (fail)
  have ek1 : (x.kind == 1) = false := by simp [hk1]
  have ek2 : (x.kind == 2) = false := by simp [hk2]
  simp only [ek1, ek2]
  clear ek1 ek2 hk1 hk2
  obtain ⟨W0, hW0⟩ : ∃ y, ((w.alloc (.cells #[.int .i64 x.kind, .string x.lab, .slice A n c] 25)).alloc (.cells #[.int .u32 0, .int .u32 0] 74)).alloc (.cells #[.int .u32 0, .int .u32 0] 74) = y := ⟨_, rfl⟩
  rw [hW0] at HX0 HWH0
  clear y0 y1
  try rw [hW0]
  clear hW0
  go_loopw [26] (fun i wr => ∃ (k : Nat) (lv' : Value) (s1 : NS) (F L : Nat), k ≤ n ∧ i = .int .i64 k ∧ Wh w B N sv lv' s1 la em (w.heap.size + 1) (w.heap.size + 1 + 1) F L wr ∧ wr.heap[w.heap.size]? = some (.cells #[.int .i64 x.kind, .string x.lab, .slice A n c] 25 (0, 0)) ∧
    addA (ks.drop k) s1 F L = addA ks s 0 0 ∧ Bd s1 ∧ s1.labs.length + pnL (ks.drop k) ≤ 25 ∧ F < 2 ^ s1.labs.length ∧ L < 2 ^ s1.labs.length) (fun i _ => n - (intOf i).toNat)
  case atStart => exact ⟨0, _, s, 0, 0, Nat.zero_le _, rfl, HWH0.out, HX0.out, rfl, HBD.out, HPN.out, Nat.two_pow_pos _, Nat.two_pow_pos _⟩
  case round =>
    obtain ⟨k, lv, s1, F, L, hk, rfl, hwh, hxb, hmath, hbd, hpn, hF, hL⟩ := hrel
    have hnb := hwh.nb
    have hkw := hwh.kn
    by_cases hlt : k < n
    · have e1 : k < ks.length := by have := HN.out; omega
      obtain ⟨ad, kv, f1, _, q0, q1, q2, q3⟩ := XR.at3 (HX.out.bel (hkw.below.mono HM.out)) e1
      subst f1
      obtain ⟨A4, c4, e4⟩ := q3.form
      obtain ⟨m4, hm4⟩ : ∃ x, ks[k].kids.length = x := ⟨_, rfl⟩
      rw [hm4] at e4
      clear hm4
      subst e4
      have hadd := HIH.out ks[k] (List.getElem_mem e1)
      have hxv : XV M wr (.agg #[.int .i64 ks[k].kind, .string ks[k].lab, .slice A4 m4 c4]) ks[k] := ⟨_, rfl, q3⟩
      have hmath' : addA (ks.drop (k + 1)) (addX ks[k] s1).1 (F ||| (addX ks[k] s1).2.1) (L ||| (addX ks[k] s1).2.2) = addA ks s 0 0 := by
        rw [← hmath, List.drop_eq_getElem_cons e1, addA_cons]
      rw [pnL_drop e1] at hpn
      obtain ⟨b1, b2, b3, b4⟩ := addX_bd ks[k] hbd
      have HBR := Lib.hid (Nat.le_trans HB.out hkw.size)
      have hb8 := at_push wr (.cells #[.int .i64 ks[k].kind, .string ks[k].lab, .slice A4 m4 c4] 25)
      have hbk := (Below.refl _ wr).alloc (Nat.le_refl _) (.cells #[.int .i64 ks[k].kind, .string ks[k].lab, .slice A4 m4 c4] 25)
      have hkk := Kn.of_below hbk HBR.out
      have HADD := Lib.hid (hadd M B N sv lv s1 la em _ (.agg #[.int .i64 ks[k].kind, .string ks[k].lab, .slice A4 m4 c4]) (hxv.bel (hbk.mono (Nat.le_trans HM.out HBR.out))) HM.out (Nat.le_trans HBR.out hbk.size) (hnb.bel hbk) (HT.out.low ((hkw.trans hkk).low 0 HPOS.out)) hbd (by omega))
      have HWK := Lib.hid (hwh.kept (hnb.bel hbk) hkk)
      have HXK := Lib.hid (hkk.cells _ _ _ _ hxb (by decide) (by decide) (by decide))
      have HMATH := Lib.hid hmath'
      have hlen25 : s1.labs.length ≤ 25 := by omega
      have hl25' : (addX ks[k] s1).1.labs.length ≤ 25 := by omega
      have hF25 : F < 2 ^ 25 := Nat.lt_of_lt_of_le hF (Nat.pow_le_pow_right (by decide) hlen25)
      have hL25 : L < 2 ^ 25 := Nat.lt_of_lt_of_le hL (Nat.pow_le_pow_right (by decide) hlen25)
      have hf25 : (addX ks[k] s1).2.1 < 2 ^ 25 := Nat.lt_of_lt_of_le b2 (Nat.pow_le_pow_right (by decide) hl25')
      have hg25 : (addX ks[k] s1).2.2 < 2 ^ 25 := Nat.lt_of_lt_of_le b3 (Nat.pow_le_pow_right (by decide) hl25')
      have HOR1 := Lib.hid (u32_or F (addX ks[k] s1).2.1 (by omega) (by omega))
      have HOR2 := Lib.hid (u32_or L (addX ks[k] s1).2.2 (by omega) (by omega))
      have hFl : F < 2 ^ (addX ks[k] s1).1.labs.length := Nat.lt_of_lt_of_le hF (Nat.pow_le_pow_right (by decide) (by omega))
      have hLl : L < 2 ^ (addX ks[k] s1).1.labs.length := Nat.lt_of_lt_of_le hL (Nat.pow_le_pow_right (by decide) (by omega))
      have HBND := Lib.hid (show Bd (addX ks[k] s1).1 ∧ (addX ks[k] s1).1.labs.length + pnL (ks.drop (k + 1)) ≤ 25 ∧ (F ||| (addX ks[k] s1).2.1) < 2 ^ (addX ks[k] s1).1.labs.length ∧ (L ||| (addX ks[k] s1).2.2) < 2 ^ (addX ks[k] s1).1.labs.length
        from ⟨b1, by omega, Nat.or_lt_two_pow hFl b2, Nat.or_lt_two_pow hLl b3⟩)
      clear hFl hLl hadd hxv hnb hkw hwh hmath hmath' hbd hpn hF hL b1 b2 b3 b4 q3 hf25 hg25 hF25 hL25 hlen25 hl25' hxb
      unfold AddR at HADD
      go_upto_region 10 with (fail)
      obtain ⟨wk, hwk⟩ : ∃ x, wr.alloc (.cells #[.int .i64 ks[k].kind, .string ks[k].lab, .slice A4 m4 c4] 25) = x := ⟨_, rfl⟩
      rw [hwk] at hb8 hbk hkk HADD HWK HXK ⊢
      clear hwk q0 q1 q2
      have g0 := cell_of_row _ _ 0 _ 25 (0, 0) hb8
      have g1 := cell_of_row _ _ 1 _ 25 (0, 0) hb8
      have g2 := cell_of_row _ _ 2 _ 25 (0, 0) hb8
      simp only [List.getElem?_toArray, List.getElem?_cons_zero, List.getElem?_cons_succ] at g0 g1 g2
      clear hbk hb8 hkk
      obtain ⟨E8, hE8⟩ : ∃ x, wr.heap.size = x := ⟨_, rfl⟩
      rw [hE8] at g0 g1 g2 ⊢
      clear hE8
      generalize hxk : ks[k] = xk at *
      obtain ⟨f, hf⟩ : ∃ x, (addX xk s1).2.1 = x := ⟨_, rfl⟩
      obtain ⟨g, hg⟩ : ∃ x, (addX xk s1).2.2 = x := ⟨_, rfl⟩
      rw [hf, hg] at HADD HMATH HBND
      rw [hf] at HOR1
      rw [hg] at HOR2
      clear hf hg hxk
      go_upto_region 11 with (go_at_call 43; refine HADD.out.mono ?_; rintro e w1 ⟨lv6, rfl, hnb, hkn⟩; have HW1 := Lib.hid (And.intro hnb hkn); clear hnb hkn)
      have hz0 := HWK.out.kept HW1.out.1 HW1.out.2
      have hxb0 := HW1.out.2.cells _ _ _ _ HXK.out (by decide) (by decide) (by decide)
      have hba := (Below.refl _ w1).alloc (Nat.le_refl _) (.cells #[.int .u32 (f : Int), .int .u32 (g : Int)] 74)
      have hz1 := hz0.kept (hz0.nb.bel hba) (Kn.of_below hba (Nat.le_trans HB.out hz0.kn.size))
      have hp2 := at_push w1 (.cells #[.int .u32 (f : Int), .int .u32 (g : Int)] 74)
      have hxb1 := (hba.block _ (Array.getElem?_eq_some_iff.1 hxb0).1).trans hxb0
      have hne9 : w1.heap.size ≠ w.heap.size + 1 + 1 := by have h2 := (Array.getElem?_eq_some_iff.1 hz0.b5).1; omega
      obtain ⟨wz, hwz⟩ : ∃ x, w1.alloc (.cells #[.int .u32 (f : Int), .int .u32 (g : Int)] 74) = x := ⟨_, rfl⟩
      rw [hwz] at hz1 hp2 hxb1 ⊢
      clear hwz hba hz0 hxb0 g0 g1 g2
      have c0 := cell_of_row _ _ 0 _ 74 (0, 0) hz1.b5
      have c1 := cell_of_row _ _ 1 _ 74 (0, 0) hz1.b5
      have c2 := cell_of_row _ _ 0 _ 74 (0, 0) hp2
      have c3 := cell_of_row _ _ 1 _ 74 (0, 0) hp2
      have d0 := frz8 hz1.b5 0
      have d1 := frz8 hz1.b5 1
      simp only [List.getElem?_toArray, List.getElem?_cons_zero, List.getElem?_cons_succ] at c0 c1 c2 c3
      have Z := Lib.hid (And.intro hz1 hxb1)
      clear hz1 hp2 hxb1
      have h5 : w.heap.size ≤ w.heap.size + 1 + 1 := by omega
      have h45 : w.heap.size + 1 ≠ w.heap.size + 1 + 1 := by omega
      have hor1 := HOR1.out
      have hor2 := HOR2.out
      obtain ⟨p8, hp8⟩ : ∃ x, w1.heap.size = x := ⟨_, rfl⟩
      rw [hp8] at c2 c3 hne9 ⊢
      clear hp8
      go_wp2_with fail
      go_roundw
      case measure => simp [intOf]; omega
      case rel => exact ⟨k + 1, _, _, _, _, by omega, by go_num, (Z.out.1.set0 h5 HB.out h45 _).set1 h5 HB.out h45 _, (Below.heap_setCell _ _ _ _ (by show w.heap.size ≠ w.heap.size + 1 + 1; omega)).trans ((Below.heap_setCell _ _ _ _ (by show w.heap.size ≠ w.heap.size + 1 + 1; omega)).trans Z.out.2), HMATH.out, HBND.out.1, HBND.out.2.1, HBND.out.2.2.1, HBND.out.2.2.2⟩
    · have hkn : k = n := by omega
      have : ks.drop k = [] := List.drop_eq_nil_of_le (by have := HN.out; omega)
      rw [this, addA_nil] at hmath
      clear this
      subst hkn
      have c0 := cell_of_row _ _ 0 _ 74 (0, 0) hwh.b5
      have c1 := cell_of_row _ _ 1 _ 74 (0, 0) hwh.b5
      have g0 := cell_of_row _ _ 0 _ 25 (0, 0) hxb
      simp only [List.getElem?_toArray, List.getElem?_cons_zero, List.getElem?_cons_succ] at c0 c1 g0
      have hF25 : F < 2 ^ 32 := Nat.lt_of_lt_of_le hF (Nat.pow_le_pow_right (by decide) (by omega))
      have hL25 : L < 2 ^ 25 := Nat.lt_of_lt_of_le hL (Nat.pow_le_pow_right (by decide) (by omega))
      have HLK := Lib.hid (link_any hnb (HT.out.low (hkw.low 0 HPOS.out)) (Nat.le_trans HB.out hkw.size) hL25 hF25 (fun p => Nat.lt_of_lt_of_le (hbd p) (Nat.pow_le_pow_right (by decide) (by omega))))
      have HWH := Lib.hid hwh
      have HMATH := Lib.hid hmath
      by_cases h45 : x.kind = 4 ∨ x.kind = 5
      · have hres : addX x s = (⟨s1.labs, lnk s1.fol L F⟩, F, L) := by rw [HRES.out, if_pos h45, ← hmath]
        have HR := Lib.hid hres
        clear hwh hnb hkw hbd hpn hF hL hmath hF25 hL25 hres
        rcases h45 with h4 | h5
        · rw [h4] at g0
          go_upto_region 16 with (go_at_call 44; refine HLK.out.mono ?_; rintro e w2 ⟨rfl, hnb, hkn⟩; have HW2 := Lib.hid (HWH.out.kept hnb hkn); clear hnb hkn)
          clear c0 c1 g0
          have c0 := cell_of_row _ _ 0 _ 74 (0, 0) HW2.out.b5
          have c1 := cell_of_row _ _ 1 _ 74 (0, 0) HW2.out.b5
          have c2 := cell_of_row _ _ 0 _ 74 (0, 0) HW2.out.b4
          have c3 := cell_of_row _ _ 1 _ 74 (0, 0) HW2.out.b4
          have d0 := frz8 HW2.out.b4 0
          have d1 := frz8 HW2.out.b4 1
          simp only [List.getElem?_toArray, List.getElem?_cons_zero, List.getElem?_cons_succ] at c0 c1 c2 c3
          go_wp2_with fail
          have h0 := heap_set (k := 0) HW2.out.b4 (.int .u32 (F : Int))
          have h1 := heap_set (k := 1) h0 (.int .u32 (L : Int))
          have e0 := cell_of_row _ _ 0 _ 74 (0, 0) h1
          have e1 := cell_of_row _ _ 1 _ 74 (0, 0) h1
          simp only [List.getElem?_toArray, List.set_cons_zero, List.set_cons_succ, List.getElem?_cons_zero, List.getElem?_cons_succ] at e0 e1
          try simp only [Exit.inBlock, Exit.then]
          refine bodyPost_ret (v := .agg #[.int .u32 (F : Int), .int .u32 (L : Int)]) (by simp [results, Tryd.results43, go_sem, e0, e1]) rfl ?_
          have h2 := (HW2.out.nb.other (k := 0) HW2.out.b4 (by decide) (by decide) (.int .u32 (F : Int))).other (k := 1) h0 (by decide) (by decide) (.int .u32 (L : Int))
          rw [HR.out]
          exact ⟨_, rfl, h2, (HW2.out.kn.set_new (Nat.le_succ _) (Nat.le_trans HB.out (Nat.le_succ _)) _).set_new (Nat.le_succ _) (Nat.le_trans HB.out (Nat.le_succ _)) _⟩
        · rw [h5] at g0
          go_upto_region 16 with (go_at_call 44; refine HLK.out.mono ?_; rintro e w2 ⟨rfl, hnb, hkn⟩; have HW2 := Lib.hid (HWH.out.kept hnb hkn); clear hnb hkn)
          clear c0 c1 g0
          have c0 := cell_of_row _ _ 0 _ 74 (0, 0) HW2.out.b5
          have c1 := cell_of_row _ _ 1 _ 74 (0, 0) HW2.out.b5
          have c2 := cell_of_row _ _ 0 _ 74 (0, 0) HW2.out.b4
          have c3 := cell_of_row _ _ 1 _ 74 (0, 0) HW2.out.b4
          have d0 := frz8 HW2.out.b4 0
          have d1 := frz8 HW2.out.b4 1
          simp only [List.getElem?_toArray, List.getElem?_cons_zero, List.getElem?_cons_succ] at c0 c1 c2 c3
          go_wp2_with fail
          have h0 := heap_set (k := 0) HW2.out.b4 (.int .u32 (F : Int))
          have h1 := heap_set (k := 1) h0 (.int .u32 (L : Int))
          have e0 := cell_of_row _ _ 0 _ 74 (0, 0) h1
          have e1 := cell_of_row _ _ 1 _ 74 (0, 0) h1
          simp only [List.getElem?_toArray, List.set_cons_zero, List.set_cons_succ, List.getElem?_cons_zero, List.getElem?_cons_succ] at e0 e1
          try simp only [Exit.inBlock, Exit.then]
          refine bodyPost_ret (v := .agg #[.int .u32 (F : Int), .int .u32 (L : Int)]) (by simp [results, Tryd.results43, go_sem, e0, e1]) rfl ?_
          have h2 := (HW2.out.nb.other (k := 0) HW2.out.b4 (by decide) (by decide) (.int .u32 (F : Int))).other (k := 1) h0 (by decide) (by decide) (.int .u32 (L : Int))
          rw [HR.out]
          exact ⟨_, rfl, h2, (HW2.out.kn.set_new (Nat.le_succ _) (Nat.le_trans HB.out (Nat.le_succ _)) _).set_new (Nat.le_succ _) (Nat.le_trans HB.out (Nat.le_succ _)) _⟩
      · have hres : addX x s = (s1, F, L) := by rw [HRES.out, if_neg h45, ← hmath]
        have HR := Lib.hid hres
        have h4 : (x.kind == 4) = false := by simpa using fun h => h45 (.inl h)
        have h5 : (x.kind == 5) = false := by simpa using fun h => h45 (.inr h)
        clear hwh hnb hkw hbd hpn hF hL hmath hF25 hL25 hres h45
        have HW2 := HWH
        go_upto_region 16 with (fail)
        clear c0 c1 g0
        have c0 := cell_of_row _ _ 0 _ 74 (0, 0) HW2.out.b5
        have c1 := cell_of_row _ _ 1 _ 74 (0, 0) HW2.out.b5
        have c2 := cell_of_row _ _ 0 _ 74 (0, 0) HW2.out.b4
        have c3 := cell_of_row _ _ 1 _ 74 (0, 0) HW2.out.b4
        have d0 := frz8 HW2.out.b4 0
        have d1 := frz8 HW2.out.b4 1
        simp only [List.getElem?_toArray, List.getElem?_cons_zero, List.getElem?_cons_succ] at c0 c1 c2 c3
        go_wp2_with fail
        have h0 := heap_set (k := 0) HW2.out.b4 (.int .u32 (F : Int))
        have h1 := heap_set (k := 1) h0 (.int .u32 (L : Int))
        have e0 := cell_of_row _ _ 0 _ 74 (0, 0) h1
        have e1 := cell_of_row _ _ 1 _ 74 (0, 0) h1
        simp only [List.getElem?_toArray, List.set_cons_zero, List.set_cons_succ, List.getElem?_cons_zero, List.getElem?_cons_succ] at e0 e1
        try simp only [Exit.inBlock, Exit.then]
        refine bodyPost_ret (v := .agg #[.int .u32 (F : Int), .int .u32 (L : Int)]) (by simp [results, Tryd.results43, go_sem, e0, e1]) rfl ?_
        have h2 := (HW2.out.nb.other (k := 0) HW2.out.b4 (by decide) (by decide) (.int .u32 (F : Int))).other (k := 1) h0 (by decide) (by decide) (.int .u32 (L : Int))
        rw [HR.out]
        exact ⟨_, rfl, h2, (HW2.out.kn.set_new (Nat.le_succ _) (Nat.le_trans HB.out (Nat.le_succ _)) _).set_new (Nat.le_succ _) (Nat.le_trans HB.out (Nat.le_succ _)) _⟩
theorem add_any : ∀ x : X, x.good → x.sz ≤ 24 → AddC x := by
  intro x
  induction x using X.ind' with
  | h x ih =>
    intro hg hs
    have ih' : ∀ y ∈ x.kids, AddC y := fun y hy => ih y hy (hg.kids y hy) (by have := szL_mem hy; have := x.sz_eq; omega)
    by_cases h1 : x.kind = 1
    · exact add_label hg h1
    · by_cases h2 : x.kind = 2
      · exact add_seq hg hs h2 ih'
      · exact add_rest hs h1 h2 ih'
end Go.Proofs.YtnccgaanfjaimaaDoor

namespace Go.Proofs.YtnccgaanfjaimaaDoor
open Go.ChangeShapes Go.WideShapes Go.ChangeAt Go.RowKit
set_option linter.unusedVariables false
set_option linter.unusedSimpArgs false

def NewR (x : X) (w : World) (e : Ending) (w' : World) : Prop := Below w.heap.size w w' ∧ if x.right = true then ∃ N, e = .returned (.tuple #[.pointer (some ⟨N, 0, none⟩), .int .i64 0]) ∧ NfX w' w.heap.size N x else e = .returned (.tuple #[.pointer none, .int .i64 2])
theorem nfC_last (sv lv : Value) (fo : Nat → Nat) (la la' : Nat) (em : Bool) : (nfC sv lv fo la em).set 27 (.int .u32 (la' : Int)) = nfC sv lv fo la' em := by
  apply List.ext_getElem?
  intro i
  by_cases hi : i = 27
  · subst hi
    rw [List.getElem?_set_self (by rw [nfC_len]; omega)]
    rfl
  · rw [List.getElem?_set_ne (by omega)]
    unfold nfC
    rcases i with _ | _ | i
    · rfl
    · rfl
    · rw [List.getElem?_cons_succ, List.getElem?_cons_succ, List.getElem?_cons_succ, List.getElem?_cons_succ]
      by_cases h25 : i < 25
      · rw [List.getElem?_append_left (by simpa using h25), List.getElem?_append_left (by simpa using h25)]
      · rw [List.getElem?_append_right (by simpa using h25), List.getElem?_append_right (by simpa using h25)]
        simp only [List.length_map, List.length_range]
        obtain ⟨j, rfl⟩ : ∃ j, i = 25 + (j + 1) := ⟨i - 26, by omega⟩
        rw [show 25 + (j + 1) - 25 = j + 1 by omega, List.getElem?_cons_succ, List.getElem?_cons_succ]
theorem NfB.setLast {w : World} {B N : Nat} {sv lv : Value} {s : NS} {la : Nat} {em : Bool} (h : NfB w B N sv lv s la em) (la' : Nat) : NfB (w.setCell ⟨N, 27, none⟩ (.int .u32 (la' : Int))) B N sv lv s la' em :=
  ⟨by rw [heap_set h.blk, nfC_last], ownsRow_setCell_other h.row (a := ⟨N, 27, none⟩) (row_ne h.row h.blk (by decide)) _, h.low, h.pos⟩

theorem nfC_zero (sv lv : Value) (em : Bool) : nfC sv lv (fun _ => 0) 0 em = [sv, lv, .int .u32 0, .int .u32 0, .int .u32 0, .int .u32 0, .int .u32 0, .int .u32 0, .int .u32 0, .int .u32 0, .int .u32 0, .int .u32 0, .int .u32 0, .int .u32 0, .int .u32 0, .int .u32 0, .int .u32 0, .int .u32 0, .int .u32 0, .int .u32 0, .int .u32 0, .int .u32 0, .int .u32 0, .int .u32 0, .int .u32 0, .int .u32 0, .int .u32 0, .int .u32 0, .bool em] := rfl

set_option maxRecDepth 100000 in
set_option maxHeartbeats 8000000 in
theorem new_any {M : Nat} {w : World} {v : Value} {x : X} (hx : XV M w v x) (hM : M ≤ w.heap.size) (hT : Tb w) (hR : ∀ W, Below w.heap.size w W → Calls Tryd.prog 37 #[v] W fun e w1 => e = .returned (.bool x.right) ∧ Below W.heap.size W w1) :
    Calls Tryd.prog 11 #[v] w (NewR x w) := by
  obtain ⟨kv, rfl, hr⟩ := hx
  obtain ⟨A, c, rfl⟩ := hr.form
  have hb1 : Below w.heap.size w (w.alloc (.cells #[.int .i64 x.kind, .string x.lab, .slice A x.kids.length c] 25)) := (Below.refl _ w).alloc (Nat.le_refl _) _
  have hx0 := at_push w (.cells #[.int .i64 x.kind, .string x.lab, .slice A x.kids.length c] 25)
  have HR := Lib.hid (hR _ hb1)
  have HB1 := Lib.hid hb1
  unfold NewR
  cases hrt : x.right with
  | false =>
    rw [hrt] at HR
    have c0 := cell_of_row _ _ 0 _ 25 (0, 0) hx0
    have c1 := cell_of_row _ _ 1 _ 25 (0, 0) hx0
    have c2 := cell_of_row _ _ 2 _ 25 (0, 0) hx0
    simp only [List.getElem?_toArray, List.getElem?_cons_zero, List.getElem?_cons_succ] at c0 c1 c2
    clear hrt hx0 hb1 hR hr hT
    go_enter Tryd.func11, Tryd.ntmps11
    go_wp2_with (go_at_call 37; refine HR.out.mono ?_; rintro e w1 ⟨rfl, hb⟩; have HB2 := Lib.hid (HB1.out.trans (hb.mono HB1.out.size)); clear hb)
    go_ret2
    exact ⟨HB2.out, by simp⟩
  | true =>
    rw [hrt] at HR
    obtain ⟨hg, hs⟩ := right_good hrt
    have HXV := Lib.hid (show XV M w (.agg #[.int .i64 x.kind, .string x.lab, .slice A x.kids.length c]) x from ⟨_, rfl, hr⟩)
    have HG := Lib.hid (And.intro hg hs)
    have HT := Lib.hid hT
    have c0 := cell_of_row _ _ 0 _ 25 (0, 0) hx0
    have c1 := cell_of_row _ _ 1 _ 25 (0, 0) hx0
    have c2 := cell_of_row _ _ 2 _ 25 (0, 0) hx0
    simp only [List.getElem?_toArray, List.getElem?_cons_zero, List.getElem?_cons_succ] at c0 c1 c2
    have HX0 := Lib.hid hx0
    obtain ⟨n, hn⟩ : ∃ y, x.kids.length = y := ⟨_, rfl⟩
    obtain ⟨kk, hkk⟩ : ∃ y, x.kind = y := ⟨_, rfl⟩
    obtain ⟨kl, hkl⟩ : ∃ y, x.lab = y := ⟨_, rfl⟩
    have hrt' := hrt
    rw [hn, hkk, hkl] at HXV HX0 HB1 HR c0 c1 c2 ⊢
    clear hrt hx0 hb1 hR hr hT hn hkk hkl hg hs
    go_enter Tryd.func11, Tryd.ntmps11
    go_upto_region 3 with (go_at_call 37; refine HR.out.mono ?_; rintro e w1 ⟨rfl, hb⟩; have HW1 := Lib.hid hb; clear hb)
    have hb2 := HB1.out.trans (HW1.out.mono HB1.out.size)
    have hx1 := (HW1.out.block _ (Array.getElem?_eq_some_iff.1 HX0.out).1).trans HX0.out
    have hb3 : Below w1.heap.size w1 (w1.alloc (.cells #[.string ⟨#[]⟩] 9)) := (Below.refl _ w1).alloc (Nat.le_refl _) _
    have hx2 := (hb3.block _ (Array.getElem?_eq_some_iff.1 hx1).1).trans hx1
    have hrow := at_push w1 (.cells #[.string ⟨#[]⟩] 9)
    have hb4 := hb2.trans (hb3.mono hb2.size)
    have c0 := cell_of_row _ _ 0 _ 25 (0, 0) hx2
    have c1 := cell_of_row _ _ 1 _ 25 (0, 0) hx2
    have c2 := cell_of_row _ _ 2 _ 25 (0, 0) hx2
    simp only [List.getElem?_toArray, List.getElem?_cons_zero, List.getElem?_cons_succ] at c0 c1 c2
    have hemp : Calls Tryd.prog 40 #[.agg #[.int .i64 kk, .string kl, .slice A n c]] (w1.alloc (.cells #[.string ⟨#[]⟩] 9)) fun e w' => e = .returned (.bool x.emp) ∧ Below (w1.alloc (.cells #[.string ⟨#[]⟩] 9)).heap.size (w1.alloc (.cells #[.string ⟨#[]⟩] 9)) w' := by
      have h := empty18_any (HXV.out.bel (hb4.mono hM)) (Nat.le_trans hM hb4.size) (by have := HG.out.2; omega) (good_lit HG.out.1)
      rw [hrt', Bool.true_and] at h
      exact h
    have HEMP := Lib.hid hemp
    have F1 := Lib.hid (And.intro hb4 (And.intro hx2 hrow))
    clear hb2 hx1 hb3 hx2 hrow hb4 hemp
    go_upto_region 5 with (go_at_call 40; refine HEMP.out.mono ?_; rintro e w2 ⟨rfl, hb⟩; have HW2 := Lib.hid hb; clear hb)
    obtain ⟨hb4, hx2, hrow⟩ := F1.out
    have hb5 := hb4.trans (HW2.out.mono hb4.size)
    have hx3 := (HW2.out.block _ (Array.getElem?_eq_some_iff.1 hx2).1).trans hx2
    have hrow3 := (HW2.out.block _ (Array.getElem?_eq_some_iff.1 hrow).1).trans hrow
    rw [← nfC_zero (.pointer (some ⟨w2.heap.size, 0, none⟩)) (.slice (some ⟨w1.heap.size, 0, none⟩) 1 1) x.emp]
    have hbN : Below w2.heap.size w2 (w2.alloc (.cells (nfC (.pointer (some ⟨w2.heap.size, 0, none⟩)) (.slice (some ⟨w1.heap.size, 0, none⟩) 1 1) (fun _ => 0) 0 x.emp).toArray 72)) := (Below.refl _ w2).alloc (Nat.le_refl _) _
    have hN := at_push w2 (.cells (nfC (.pointer (some ⟨w2.heap.size, 0, none⟩)) (.slice (some ⟨w1.heap.size, 0, none⟩) 1 1) (fun _ => 0) 0 x.emp).toArray 72)
    obtain ⟨w3, hw3⟩ : ∃ y, w2.alloc (.cells (nfC (.pointer (some ⟨w2.heap.size, 0, none⟩)) (.slice (some ⟨w1.heap.size, 0, none⟩) 1 1) (fun _ => 0) 0 x.emp).toArray 72) = y := ⟨_, rfl⟩
    rw [hw3] at hbN hN ⊢
    have hwz : w.heap.size ≤ w1.heap.size := by have := HB1.out.size; have := HW1.out.size; simp at *; omega
    have hb6 := hb5.trans (hbN.mono hb5.size)
    have hx4 := (hbN.block _ (Array.getElem?_eq_some_iff.1 hx3).1).trans hx3
    have hrow4 := (hbN.block _ (Array.getElem?_eq_some_iff.1 hrow3).1).trans hrow3
    have hNB : NfB w3 w.heap.size w2.heap.size (.pointer (some ⟨w2.heap.size, 0, none⟩)) (.slice (some ⟨w1.heap.size, 0, none⟩) 1 1) ⟨[⟨#[]⟩], fun _ => 0⟩ 0 x.emp :=
      ⟨hN, ⟨rfl, .inr ⟨w1.heap.size, 1, #[.string ⟨#[]⟩], rfl, hwz, hrow4, Nat.le_refl _, by unfold maxLen; omega, rfl, rfl⟩⟩, hb5.size, HT.out.pos⟩
    have HADD := Lib.hid (add_any x HG.out.1 HG.out.2 M w.heap.size w2.heap.size _ _ _ 0 x.emp w3 (.agg #[.int .i64 kk, .string kl, .slice A n c]) (HXV.out.bel (hb6.mono hM)) hM hb6.size hNB (HT.out.below hb6 HT.out.pos) (fun p => by simp) (by have := pn_sz x; have := HG.out.2; simp; omega))
    unfold AddR at HADD
    have HN6 := Lib.hid hb6
    have c0 := cell_of_row _ _ 0 _ 25 (0, 0) hx4
    have c1 := cell_of_row _ _ 1 _ 25 (0, 0) hx4
    have c2 := cell_of_row _ _ 2 _ 25 (0, 0) hx4
    simp only [List.getElem?_toArray, List.getElem?_cons_zero, List.getElem?_cons_succ] at c0 c1 c2
    obtain ⟨N, hNN⟩ : ∃ y, w2.heap.size = y := ⟨_, rfl⟩
    rw [hNN] at HADD ⊢
    clear hb4 hx2 hrow hb5 hx3 hrow3 hbN hN hw3 hb6 hx4 hrow4 hNB hNN hwz
    obtain ⟨f, hf⟩ : ∃ y, (addX x ⟨[⟨#[]⟩], fun _ => 0⟩).2.1 = y := ⟨_, rfl⟩
    obtain ⟨g, hg⟩ : ∃ y, (addX x ⟨[⟨#[]⟩], fun _ => 0⟩).2.2 = y := ⟨_, rfl⟩
    rw [hf, hg] at HADD
    have HFG := Lib.hid (And.intro hf hg)
    clear hf hg
    go_upto_region 6 with (go_at_call 43; refine HADD.out.mono ?_; rintro e w4 ⟨lv4, rfl, hnb, hkn⟩; have HW4 := Lib.hid (And.intro hnb hkn); clear hnb hkn)
    have hk5 := Kn.of_below ((Below.refl _ w4).alloc (Nat.le_refl _) (.cells #[.int .u32 (f : Int), .int .u32 (g : Int)] 74)) (Nat.le_trans HN6.out.size HW4.out.2.size)
    have hnb5 := HW4.out.1.bel ((Below.refl _ w4).alloc (Nat.le_refl _) (.cells #[.int .u32 (f : Int), .int .u32 (g : Int)] 74))
    have hp5 := at_push w4 (.cells #[.int .u32 (f : Int), .int .u32 (g : Int)] 74)
    obtain ⟨W5, hW5⟩ : ∃ y, w4.alloc (.cells #[.int .u32 (f : Int), .int .u32 (g : Int)] 74) = y := ⟨_, rfl⟩
    rw [hW5] at hk5 hnb5 hp5 ⊢
    clear hW5 c0 c1 c2
    obtain ⟨p5, hpp⟩ : ∃ y, w4.heap.size = y := ⟨_, rfl⟩
    rw [hpp] at hp5 ⊢
    clear hpp
    have hkw := (Kn.of_below HN6.out (Nat.le_refl _)).trans (HW4.out.2.trans hk5)
    obtain ⟨b1, b2, b3, b4⟩ := addX_bd x (s := ⟨[⟨#[]⟩], fun _ => 0⟩) (fun p => by simp)
    have hl25 : (addX x ⟨[⟨#[]⟩], fun _ => 0⟩).1.labs.length ≤ 25 := by rw [b4]; have := pn_sz x; have := HG.out.2; simp; omega
    have hf32 : f < 2 ^ 32 := by rw [← HFG.out.1]; exact Nat.lt_of_lt_of_le b2 (Nat.pow_le_pow_right (by decide) (by omega))
    have hfo : ∀ p, (addX x ⟨[⟨#[]⟩], fun _ => 0⟩).1.fol p < 2 ^ 32 := fun p => Nat.lt_of_lt_of_le (b1 p) (Nat.pow_le_pow_right (by decide) (by omega))
    have hdr : Below W5.heap.size W5 W5.drew := (Below.refl _ W5).drew
    have hlk : Calls Tryd.prog 44 #[.pointer (some ⟨N, 0, none⟩), .int .u32 (1 : Int), .int .u32 (f : Int)] W5.drew _ := link_any (fr := 1) (tt := f) (hnb5.bel hdr) ((HT.out.low (hkw.low 0 HT.out.pos)).below hdr (HT.out.low (hkw.low 0 HT.out.pos)).pos) (Nat.le_trans hkw.size hdr.size) (by decide) hf32 hfo
    have HLK := Lib.hid hlk
    have HONLY := Lib.hid (fun W => show Calls Tryd.prog 45 #[.int .i64 (0 : Int)] W fun e w' => e = .returned (.int .u32 (1 : Int)) ∧ W = w' from only_any 0 (by decide) W)
    have HS := Lib.hid (fun W (hW : Kn w.heap.size W5 W) => show W.cell? ⟨p5, 0, none⟩ = some (.int .u32 (f : Int)) ∧ W.cell? ⟨p5, 1, none⟩ = some (.int .u32 (g : Int)) by
      have h := hW.cells _ _ _ _ hp5 (by decide) (by decide) (by decide)
      exact ⟨cell_of_row _ _ 0 _ 74 (0, 0) h, cell_of_row _ _ 1 _ 74 (0, 0) h⟩)
    have G0 := Lib.hid (show Kn w.heap.size W5 W5.drew from Kn.of_below hdr hkw.size)
    have HKW := Lib.hid hkw
    clear hk5 hnb5 hp5 hkw b1 b2 b3 b4 hl25 hf32 hfo hdr hlk
    refine wp_region_noPanic ?_
    refine wp_region_held_drew (S := fun W => W.cell? ⟨p5, 0, none⟩ = some (.int .u32 (f : Int)) ∧ W.cell? ⟨p5, 1, none⟩ = some (.int .u32 (g : Int))) (by kernel_rfl) (HS.out _ G0.out) (fun hHeld => ?_)
    clear hHeld
    refine wpAnyH_take (i := 0) (v := .pointer (some ⟨N, 0, none⟩)) rfl (by kernel_rfl) (by kernel_rfl) (by kernel_rfl) (fun _ _ _ h => (h : False).elim) (Or.inl ⟨by rfl, ?_⟩) (HS.out _ G0.out) ?_
    · intro w hSw
      obtain ⟨hs0, hs1⟩ := hSw
      go_simp
    try simp only [Act.put, List.getElem_toArray, List.getElem_cons_zero, List.getElem_cons_succ, List.setIfInBounds_toArray, List.set_cons_zero, List.set_cons_succ]
    refine wpAnyH_take (i := 2) (v := .pointer (some ⟨p5, 0, none⟩)) rfl (by kernel_rfl) (by kernel_rfl) (by kernel_rfl) (fun _ _ _ h => (h : False).elim) (Or.inl ⟨by rfl, ?_⟩) (HS.out _ G0.out) ?_
    · intro w hSw
      obtain ⟨hs0, hs1⟩ := hSw
      go_simp
    try simp only [Act.put, List.getElem_toArray, List.getElem_cons_zero, List.getElem_cons_succ, List.setIfInBounds_toArray, List.set_cons_zero, List.set_cons_succ]
    refine wpAnyH_take (i := 3) (v := .int .u32 (f : Int)) rfl (by kernel_rfl) (by kernel_rfl) (by kernel_rfl) (fun _ _ _ h => (h : False).elim) (Or.inl ⟨by rfl, ?_⟩) (HS.out _ G0.out) ?_
    · intro w hSw
      obtain ⟨hs0, hs1⟩ := hSw
      go_simp
    try simp only [Act.put, List.getElem_toArray, List.getElem_cons_zero, List.getElem_cons_succ, List.setIfInBounds_toArray, List.set_cons_zero, List.set_cons_succ]
    refine wpAnyH_ready (rs := [1]) (by kernel_rfl) (by simp) ?_
    refine AllReadyH.cons rfl (fun K hK => ?_) AllReadyH.nil
    go_simp
    refine (HONLY.out _).mono ?_
    rintro e w' ⟨rfl, rfl⟩
    refine hK.out _ _ (HS.out _ G0.out) (fun _ => ?_)
    clear hK
    try simp only [Act.put, List.getElem_toArray, List.getElem_cons_zero, List.getElem_cons_succ, List.setIfInBounds_toArray, List.set_cons_zero, List.set_cons_succ]
    refine wpAnyH_ready (rs := [4]) (by kernel_rfl) (by simp) ?_
    refine AllReadyH.cons rfl (fun K hK => ?_) AllReadyH.nil
    go_simp
    refine HLK.out.mono ?_
    rintro e w6 ⟨rfl, hnb, hkn⟩
    have G1 := Lib.hid (show Kn w.heap.size W5 w6 from G0.out.trans hkn)
    have HW6 := Lib.hid hnb
    clear hnb hkn
    refine hK.out _ _ (HS.out _ G1.out) (fun _ => ?_)
    clear hK
    try simp only [Act.put, List.getElem_toArray, List.getElem_cons_zero, List.getElem_cons_succ, List.setIfInBounds_toArray, List.set_cons_zero, List.set_cons_succ]
    refine ⟨by kernel_rfl, ?_⟩
    refine NoPanic.normal ?_
    obtain ⟨c0, c1⟩ := HS.out _ G1.out
    have d0 := HW6.out.frz 27
    have c27 : w6.cell? ⟨N, 27, none⟩ = some (.int .u32 ((0 : Nat) : Int)) := by rw [cell_of_row _ _ _ _ _ _ HW6.out.blk, List.getElem?_toArray]; rfl
    go_wp2_with fail
    go_ret2
    have hfin := HW6.out.setLast g
    refine ⟨((HKW.out.trans G1.out).set_new HW6.out.low HW6.out.low _).below, ?_⟩
    refine ⟨N, rfl, lv4, ?_⟩
    have e1 : nfL x = g := HFG.out.2
    have e2 : nfF x = lnk (addX x ⟨[⟨#[]⟩], fun _ => 0⟩).1.fol 1 f := by unfold nfF nf; rw [HFG.out.1]
    rw [e1, e2]
    exact hfin
end Go.Proofs.YtnccgaanfjaimaaDoor

namespace Go.Proofs.YtnccgaanfjaimaaDoor
open Go.ChangeShapes Go.WideShapes Go.ChangeAt Go.RowKit
set_option linter.unusedVariables false
set_option linter.unusedSimpArgs false

/-- positions as numbers -/
def ints (l : List Nat) : List Int := l.map fun p : Nat => (p : Int)
theorem ListQ.ir {w w' : World} {v : Value} {l : List Nat} (h : w'.ownsRow w.heap.size 3 1 v l.length (nums l)) : IR w' v (ints l) := by
  refine IR.of_own (base := w.heap.size) (n := l.length) ?_
  unfold ints
  rw [List.map_map]
  exact h
theorem IR.lit1 (w : World) (p : Int) : IR (w.alloc (.cells #[.int .i64 p] 3)) (.slice (some ⟨w.heap.size, 0, none⟩) 1 1) [p] :=
  ⟨_, 1, rfl, fun _ => ⟨⟨w.heap.size, 0, none⟩, rfl, by simp, fun k hk => by
    obtain rfl : k = 0 := by simpa using hk
    rw [at_zero8]
    exact cell_of_row _ _ 0 _ 3 (0, 0) (at_push w _)⟩⟩
theorem x0_f0 : els (nfF x0 0) = [1] := by decide +kernel
theorem x0_l : els (nfL x0) = [2] := by decide +kernel
theorem x0_f1 : folP x0 1 = [2] := by decide +kernel
theorem x0_f2 : folP x0 2 = [1] := by decide +kernel
theorem x0_pn : x0.pn = 2 := by decide +kernel

set_option maxRecDepth 100000 in
set_option maxHeartbeats 1000000 in
theorem awake_any {w : World} (hT : Tb w) : Calls Tryd.prog 9 #[] w fun e w' => e = .returned (.bool true) ∧ Below w.heap.size w w' := by
  have HT := Lib.hid hT
  clear hT
  go_enter Tryd.func9, Tryd.ntmps9
  go_upto_region 1 with (fail)
  go_wp2_with (first
    | (go_at_call 35; refine (label_any _ _).mono ?_; rintro e w1 ⟨rfl, h1⟩)
    | (go_at_call 34; refine (of_any _ _ _ _ _).mono ?_; rintro e w3 ⟨rfl, h3⟩))
  rename_i Q K1 a1 wa0 ha0 wa ha K hK
  have hab : Gr w w1 := ha0.trans h1
  have hgW : Gr w w3 := ((((hab.alloc _).trans ha).alloc _).trans h3)
  have hg1 : Gr (w1.alloc (.cells #[.int .i64 1, .string ⟨#[97]⟩, .slice none 0 0, .int .i64 1, .string ⟨#[98]⟩, .slice none 0 0] 25)) w3 := (ha.alloc _).trans h3
  have hg2 : Gr (wa.alloc (.cells #[.int .i64 2, .string ⟨#[]⟩, .slice (some ⟨w1.heap.size, 0, none⟩) 2 2] 25)) w3 := h3
  have hc1 : w3.heap[w1.heap.size]? = some (.cells #[.int .i64 1, .string ⟨#[97]⟩, .slice none 0 0, .int .i64 1, .string ⟨#[98]⟩, .slice none 0 0] 25) := by
    rw [hg1.below.block _ (lt_push _ _)]; exact at_push _ _
  have hc2 : w3.heap[wa.heap.size]? = some (.cells #[.int .i64 2, .string ⟨#[]⟩, .slice (some ⟨w1.heap.size, 0, none⟩) 2 2] 25) := by
    rw [hg2.below.block _ (lt_push _ _)]; exact at_push _ _
  have hl1 : w1.heap.size < w3.heap.size := Nat.lt_of_lt_of_le (lt_push _ _) hg1.below.size
  have hl2 : wa.heap.size < w3.heap.size := Nat.lt_of_lt_of_le (lt_push _ _) hg2.below.size
  have hx : XV w3.heap.size w3 (v0 wa.heap.size) x0 := by
    refine ⟨_, rfl, XR.one hc2 hl2 rfl rfl ?_ 1 (Nat.le_refl _)⟩
    exact XR.two hc1 hl1 rfl rfl (XR.nil _ _ _ _) rfl rfl (XR.nil _ _ _ _) 2 (Nat.le_refl _)
  have hB := hgW.below
  have hT3 := HT.out.below hB HT.out.pos
  have HNEW := Lib.hid (new_any hx (Nat.le_refl _) hT3 (fun W hW => right37_any (hx.bel hW) hW.size x0_lit))
  have HB := Lib.hid hB
  have HT3 := Lib.hid hT3
  unfold NewR at HNEW
  clear hab hgW hg1 hg2 hc1 hc2 hl1 hl2 hx ha h1 ha0 h3 hB hT3
  refine HNEW.out.mono ?_
  rintro e w4 ⟨hb4, hnn⟩
  rw [if_pos x0_right] at hnn
  obtain ⟨N, rfl, hn⟩ := hnn
  have HN := Lib.hid (fun U (hU : Below w4.heap.size w4 U) => hn.bel hU)
  have HT4 := Lib.hid (fun U (hU : Below w4.heap.size w4 U) => (HT3.out.below hb4 HT3.out.pos).below hU (HT3.out.below hb4 HT3.out.pos).pos)
  have HB4 := Lib.hid (HB.out.trans (hb4.mono HB.out.size))
  have hlen := len_any hn (by rw [x0_pn]; decide)
  rw [x0_pn] at hlen
  have HLEN := Lib.hid hlen
  have hp24 : x0.pn ≤ 24 := by rw [x0_pn]; decide
  have HF := Lib.hid (fun U (hU : Below w4.heap.size w4 U) => show Calls Tryd.prog 14 #[.pointer (some ⟨N, 0, none⟩)] U (ListQ [1] U) by have h := first14_any (HN.out U hU) (HT4.out U hU) hp24; rw [x0_f0] at h; exact h)
  have HL := Lib.hid (fun U (hU : Below w4.heap.size w4 U) => show Calls Tryd.prog 24 #[.pointer (some ⟨N, 0, none⟩)] U (ListQ [2] U) by have h := last_any (HN.out U hU) (HT4.out U hU) hp24; rw [x0_l] at h; exact h)
  have HO1 := Lib.hid (fun U (hU : Below w4.heap.size w4 U) => show Calls Tryd.prog 21 #[.pointer (some ⟨N, 0, none⟩), .int .i64 1] U (ListQ [2] U) by have h := follow_any (HN.out U hU) (HT4.out U hU) hp24 1; rw [x0_f1] at h; exact h)
  have HO2 := Lib.hid (fun U (hU : Below w4.heap.size w4 U) => show Calls Tryd.prog 21 #[.pointer (some ⟨N, 0, none⟩), .int .i64 2] U (ListQ [1] U) by have h := follow_any (HN.out U hU) (HT4.out U hU) hp24 2; rw [x0_f2] at h; exact h)
  have HE := Lib.hid (fun U (hU : Below w4.heap.size w4 U) => show Calls Tryd.prog 17 #[.pointer (some ⟨N, 0, none⟩)] U _ by have h := empty_any (HN.out U hU); rw [x0_emp] at h; exact h)
  have HSAME := Lib.hid (fun (U' : World) (v : Value) (p : Int) (hv : IR U' v [p]) => show Calls Tryd.prog 20 #[v, .slice (some ⟨U'.heap.size, 0, none⟩) 1 1] (U'.alloc (.cells #[.int .i64 p] 3)) fun e w' => e = .returned (.bool true) ∧ Below U'.heap.size U' w' by
    have hb := (Below.refl _ U').alloc (Nat.le_refl _) (.cells #[.int .i64 p] 3)
    refine (sameI_any _ _ [p] [p] _ (hv.bel hb) (IR.lit1 U' p) (by simp)).mono ?_
    rintro e w' ⟨rfl, h⟩
    exact ⟨by simp, hb.trans (h.mono hb.size)⟩)
  unfold ListQ at HF HL HO1 HO2
  have G0 := Lib.hid (Below.refl w4.heap.size w4)
  clear hb4 hn hlen
  go_wp2_with (first
    | (go_at_call 16; refine HLEN.out.mono ?_; rintro e u0 ⟨rfl, rfl⟩)
    | (go_at_call 17; refine (HE.out _ G8.out).mono ?_; rintro e u9 ⟨rfl, rfl⟩)
    | (go_at_call 20; refine (HSAME.out u7 _ 1 (ListQ.ir (l := [1]) I7.out)).mono ?_; rintro e u8 ⟨rfl, h⟩; have G8 := Lib.hid (G7.out.trans (h.mono G7.out.size)); clear h)
    | (go_at_call 21; refine (HO2.out _ G6.out).mono ?_; rintro e u7 ⟨v, rfl, hi, h⟩; have G7 := Lib.hid (G6.out.trans (h.mono G6.out.size)); have I7 := Lib.hid hi; clear h hi)
    | (go_at_call 20; refine (HSAME.out u5 _ 2 (ListQ.ir (l := [2]) I5.out)).mono ?_; rintro e u6 ⟨rfl, h⟩; have G6 := Lib.hid (G5.out.trans (h.mono G5.out.size)); clear h)
    | (go_at_call 21; refine (HO1.out _ G4.out).mono ?_; rintro e u5 ⟨v, rfl, hi, h⟩; have G5 := Lib.hid (G4.out.trans (h.mono G4.out.size)); have I5 := Lib.hid hi; clear h hi)
    | (go_at_call 20; refine (HSAME.out u3 _ 2 (ListQ.ir (l := [2]) I3.out)).mono ?_; rintro e u4 ⟨rfl, h⟩; have G4 := Lib.hid (G3.out.trans (h.mono G3.out.size)); clear h)
    | (go_at_call 24; refine (HL.out _ G2.out).mono ?_; rintro e u3 ⟨v, rfl, hi, h⟩; have G3 := Lib.hid (G2.out.trans (h.mono G2.out.size)); have I3 := Lib.hid hi; clear h hi)
    | (go_at_call 20; refine (HSAME.out u1 _ 1 (ListQ.ir (l := [1]) I1.out)).mono ?_; rintro e u2 ⟨rfl, h⟩; have G2 := Lib.hid (G1.out.trans (h.mono G1.out.size)); clear h)
    | (go_at_call 14; refine (HF.out _ G0.out).mono ?_; rintro e u1 ⟨v, rfl, hi, h⟩; have G1 := Lib.hid (G0.out.trans (h.mono G0.out.size)); have I1 := Lib.hid hi; clear h hi))
  go_ret
  exact ⟨rfl, HB4.out.trans (G8.out.mono HB4.out.size)⟩
end Go.Proofs.YtnccgaanfjaimaaDoor

namespace Go.Proofs.YtnccgaanfjaimaaDoor
open Go.ChangeShapes Go.WideShapes Go.ChangeAt Go.RowKit
set_option linter.unusedVariables false
set_option linter.unusedSimpArgs false

set_option maxHeartbeats 1000000 in
theorem has38_any {w : World} {v : Value} {l : List Int} (hv : IR w v l) (hlen : l.length ≤ 1000000) (m : Int) :
    Calls Tryd.prog 38 #[v, .int .i64 m] w fun e w' => e = .returned (.bool (decide (m ∈ l))) ∧ w = w' := by
  obtain ⟨A, c, rfl, hcell⟩ := hv
  obtain ⟨n, hn⟩ : ∃ n, l.length = n := ⟨_, rfl⟩
  have HN := Lib.hid hn
  rw [hn] at hlen ⊢
  have HC := Lib.hid hcell
  clear hn hcell
  go_enter Tryd.func38, Tryd.ntmps38
  go_wp2_with fail
  go_loopw [5] (fun i wr => ∃ k : Nat, k ≤ n ∧ i = .int .i64 k ∧ m ∉ l.take k ∧ w = wr) (fun i _ => n - (intOf i).toNat)
  case atStart => exact ⟨0, Nat.zero_le _, rfl, by simp, rfl⟩
  case round =>
    obtain ⟨k, hk, rfl, hm, rfl⟩ := hrel
    by_cases hlt : k < n
    · have e1 : k < l.length := by have := HN.out; omega
      obtain ⟨ad, rfl, -, hc⟩ := HC.out (by omega)
      have q := hc k e1
      have htk : l.take (k + 1) = l.take k ++ [l[k]] := List.take_succ_eq_append_getElem e1
      have hmem : l[k] ∈ l := List.getElem_mem e1
      have HM := Lib.hid (And.intro hm (And.intro htk hmem))
      generalize l[k] = p at *
      clear hm htk hmem hc
      by_cases hp : p = m
      · subst hp
        go_wp2_with fail
        go_ret
        exact ⟨by rw [decide_eq_true HM.out.2.2]; rfl, rfl⟩
      · go_wp2_with fail
        go_roundw
        case rel => exact ⟨k + 1, by omega, by go_num, by rw [HM.out.2.1]; simp; exact ⟨HM.out.1, fun h => hp h.symm⟩, trivial⟩
        case measure => simp [intOf]; omega
    · have htk : l.take k = l := List.take_of_length_le (by have := HN.out; omega)
      rw [htk] at hm
      have HM := Lib.hid hm
      clear hm htk
      go_wp2_with fail
      go_ret
      exact ⟨by rw [decide_eq_false HM.out]; rfl, rfl⟩

theorem ints_mem {l : List Nat} {p : Nat} : ((p : Int) ∈ ints l) ↔ p ∈ l := by
  unfold ints
  rw [List.mem_map]
  constructor
  · rintro ⟨q, hq, h⟩
    obtain rfl : q = p := by omega
    exact hq
  · intro h; exact ⟨p, h, rfl⟩
theorem orL_els {S : Nat} (h : S < 2 ^ 32) : orL ((els S).map (2 ^ ·)) = S := by
  apply Nat.eq_of_testBit_eq
  intro i
  rw [orL_bit, List.any_map]
  cases hb : S.testBit i with
  | true =>
    rw [List.any_eq_true]
    refine ⟨i, mem_els.2 ⟨Nat.lt_of_not_le fun hge => ?_, hb⟩, ?_⟩
    · rw [bit_false h hge] at hb; cases hb
    · simp [Nat.testBit_two_pow]
  | false =>
    rw [List.any_eq_false]
    intro p hp
    simp only [Function.comp, Nat.testBit_two_pow, decide_eq_true_eq]
    rintro rfl
    rw [(mem_els.1 hp).2] at hb
    cases hb
/-- a list of places tells its set -/
theorem knN_els (x : X) {S : Nat} (h : S < 2 ^ (1 + x.pn)) (h32 : S < 2 ^ 32) : knN x (ints (els S)) = S := by
  unfold knN
  have h1 : (ints (els S)).filter (okP x) = ints (els S) := by
    rw [List.filter_eq_self]
    intro p hp
    unfold ints at hp
    obtain ⟨q, hq, rfl⟩ := List.mem_map.1 hp
    unfold okP
    rw [decide_eq_true_eq]
    have hb : q < 1 + x.pn := Nat.lt_of_not_le fun hge => by
      have := (mem_els.1 hq).2
      rw [bit_false h hge] at this
      cases this
    omega
  rw [h1]
  unfold ints
  rw [List.map_map]
  exact orL_els h32

/-- the law's size of an expression, from its top -/
theorem size8_any {M : Nat} {w : World} {v : Value} {x : X} (hx : XV M w v x) (hM : M ≤ w.heap.size) : Calls Tryd.prog 8 #[v, .int .i64 0] w fun e w' => e = .returned (.int .i64 (szD 61 x)) ∧ Below w.heap.size w w' :=
  (size_any 61 x M w v hx hM (Nat.le_refl _)).mono (by rintro e w' ⟨h, hg⟩; exact ⟨h, hg.below⟩)
theorem new11_any {M : Nat} {w : World} {v : Value} {x : X} (hx : XV M w v x) (hM : M ≤ w.heap.size) (hT : Tb w) (hl : x.lit) : Calls Tryd.prog 11 #[v] w (NewR x w) :=
  new_any hx hM hT (fun W hW => right37_any (hx.bel (hW.mono hM)) (Nat.le_trans hM hW.size) hl)

/-- what the law of words knows when it comes to its tests -/
structure Wp (M : Nat) (w : World) (x : X) (n c : Nat) (A : Option Addr) (W : World) : Prop where
  b : Below w.heap.size w W
  bx : W.heap[w.heap.size]? = some (.cells #[.int .i64 x.kind, .string x.lab, .slice A n c] 25 (0, 0))
  xv : XV M W (.agg #[.int .i64 x.kind, .string x.lab, .slice A n c]) x
  tb : Tb W
theorem Wp.bel {M : Nat} {w : World} {x : X} {n c : Nat} {A : Option Addr} {W W' : World} (h : Wp M w x n c A W) (hM : M ≤ w.heap.size) (hb : Below W.heap.size W W') : Wp M w x n c A W' :=
  ⟨h.b.trans (hb.mono h.b.size), (hb.block _ (Array.getElem?_eq_some_iff.1 h.bx).1).trans h.bx, h.xv.bel (hb.mono (Nat.le_trans hM h.b.size)), h.tb.below hb h.tb.pos⟩
theorem Wp.cells {M : Nat} {w : World} {x : X} {n c : Nat} {A : Option Addr} {W : World} (h : Wp M w x n c A W) : W.cell? ⟨w.heap.size, 0, none⟩ = some (.int .i64 x.kind) ∧ W.cell? ⟨w.heap.size, 1, none⟩ = some (.string x.lab) ∧ W.cell? ⟨w.heap.size, 2, none⟩ = some (.slice A n c) :=
  ⟨cell_of_row _ _ 0 _ 25 (0, 0) h.bx, cell_of_row _ _ 1 _ 25 (0, 0) h.bx, cell_of_row _ _ 2 _ 25 (0, 0) h.bx⟩
theorem Wp.new {M : Nat} {w : World} {x : X} {c : Nat} {A : Option Addr} (hx : XV M w (.agg #[.int .i64 x.kind, .string x.lab, .slice A x.kids.length c]) x) (hM : M ≤ w.heap.size) (hT : Tb w) : Wp M w x x.kids.length c A (w.alloc (.cells #[.int .i64 x.kind, .string x.lab, .slice A x.kids.length c] 25)) := by
  have hb := (Below.refl _ w).alloc (Nat.le_refl _) (.cells #[.int .i64 x.kind, .string x.lab, .slice A x.kids.length c] 25)
  exact ⟨hb, at_push w _, hx.bel (hb.mono hM), hT.below hb hT.pos⟩
end Go.Proofs.YtnccgaanfjaimaaDoor
