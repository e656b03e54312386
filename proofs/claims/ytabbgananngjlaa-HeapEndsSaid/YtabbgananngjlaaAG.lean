/- Walk of HeapDoes. -/
import Derived.Test.YtabbgananngjlaaAF
import Derived.Test.YtabbgananngjlaaS
import Derived.Deep.CutRange
import Derived.Deep.CutBlock
namespace Go.Proofs.Ytabbgananngjlaa
open Go.ChangeShapes Go.WideShapes Go.ChangeAt Go.RowKit
set_option linter.unusedVariables false

theorem below_between {B : Nat} {a b c : World} (h : Below B a b) (k : Below B a c) (hs : b.heap.size ≤ c.heap.size) : Below B b c :=
  ⟨k.os.trans h.os.symm, k.tape.trans h.tape.symm, k.output.trans h.output.symm, hs, fun i hi => (k.block i hi).trans (h.block i hi).symm⟩

theorem srt_tail {M M' : List It} (hh : Heap M) (h : M'.Perm (cutL M)) : srt M' = (srt M).tail := by
  rw [srt_congr h]
  by_cases h0 : M.length = 0
  · have e : M = [] := List.eq_nil_of_length_eq_zero h0
    subst e
    rfl
  · rw [srt_cut hh (by omega)]
    rfl

set_option maxRecDepth 100000 in
set_option maxHeartbeats 4000000 in
theorem does_any {w : World} {v v2 : Value} {l : List It} {ds : List Dd} (h : PR w v l) (hlt : 0 < l.length → ∀ g, v.ownBlock = some g → g < w.heap.size) (hd : PRD w.heap.size w v2 ds)
    (hl : l.length ≤ 281474976710656) (hdl : ds.length ≤ 281474976710656) (hdi : ∀ d ∈ ds, d.items.length ≤ 281474976710656) : Calls Try.prog 3 #[v, v2] w (Tr w) := by
  obtain ⟨i0, hi, hz0, hz1, hz2⟩ := info_parts info40
  have H := Lib.hid h
  have HD := Lib.hid hd
  have hsize := size_any hd hdl hdi
  have hszb := szf_bd ds ds.length hdi
  have hszt := szf_tot ds ds.length
  obtain ⟨A, c, rfl, _⟩ := h
  obtain ⟨A2, c2, rfl, _⟩ := hd
  obtain ⟨sz, hsz⟩ : ∃ sz, szf ds.length ds = sz := ⟨_, rfl⟩
  rw [hsz] at hsize hszb hszt
  obtain ⟨n, hn⟩ : ∃ n, l.length = n := ⟨_, rfl⟩
  obtain ⟨m, hm⟩ : ∃ m, ds.length = m := ⟨_, rfl⟩
  rw [hn] at hl
  rw [hm] at hdl hszb hszt hsize
  have HN := Lib.hid hn
  have HM := Lib.hid hm
  rw [hn] at H
  rw [hm] at HD
  rw [hn, hm]
  have HSZT := Lib.hid hszt
  have hszc : (sz : Int) ≤ 1000000000000000 := by omega
  clear hsz hn hm hdi hszb hszt
  by_cases hbig : 600 < sz + n
  · have hbig' : (600 : Int) < (sz : Int) + (n : Int) := by omega
    go_enter Try.func3, Try.ntmps3
    go_wp2_with fail
    refine hsize.mono ?_
    rintro e w1 ⟨rfl, rfl⟩
    clear hsize
    go_wp2_with fail
    refine (awake_any _).mono ?_
    rintro e w1 ⟨rfl, hb1⟩
    have HB1 := Lib.hid hb1
    clear hb1
    go_wp2_with fail
    go_ret
    exact ⟨rfl, HB1.out⟩
  · have hbig' : ¬ (600 : Int) < (sz : Int) + (n : Int) := by omega
    have hsm : m + tot ds + n ≤ 600 := by have := HSZT.out (by omega); omega
    have HSM := Lib.hid hsm
    have hm6 : m ≤ 600 := by omega
    have hn6 : n ≤ 600 := by omega
    clear hsm hbig
    go_enter Try.func3, Try.ntmps3
    go_wp2_with fail
    refine hsize.mono ?_
    rintro e w1 ⟨rfl, rfl⟩
    clear hsize
    have hal : Below w.heap.size w (w.alloc (.cells #[] 40)) := (Below.refl _ w).alloc (Nat.le_refl _) _
    have hro : (w.alloc (.cells #[] 40)).ownsRow w.heap.size 40 2 (.slice (some ⟨w.heap.size, 0, none⟩) 0 0) 0 [] := World.ownsRow_lit w #[] 0 (Nat.le_refl _) (by unfold maxLen; omega) rfl
    have hpr := H.out.below hal
    have HAL := Lib.hid hal
    clear hal
    go_wp2_with (at_builtin; refine wpList_append_pr rfl _ _ rfl (base := w.heap.size) Try.underlying22 hi hz0 hz1 hz2 (v := .slice (some ⟨w.heap.size, 0, none⟩) 0 0) rfl hro (v2 := .slice A n c) rfl hpr (by have := HN.out; omega) (by simp) ?_; intro v5 w1 hown5 hgrow5 _; have hb1 : Below w.heap.size w w1 := HAL.out.grown hgrow5 HAL.out.size (fun k e => by cases e; exact Nat.le_refl _); have HB1 := Lib.hid hb1; have HOWN5 := Lib.hid hown5; clear hb1 hown5 hgrow5)
    have hown : w1.ownsRow w.heap.size 40 2 v5 l.length (flat l) := by simpa using HOWN5.out
    have HOWN := Lib.hid hown
    have hln : l.length ≤ 1000000 := by have := HN.out; omega
    have HLN := Lib.hid hln
    clear hown hln hro hpr
    refine (new_any (PR.of_own HOWN.out) HLN.out).mono ?_
    rintro e w2 ⟨b, sv, M0, rfl, hb2, hp2, hh2, hlo2, hro2, hbe2⟩
    have HS2 := Lib.hid (HS.of_new hb2 hh2 hlo2 hro2 hbe2)
    have HP2 := Lib.hid hp2
    have HB2 := Lib.hid hbe2
    clear hb2 hp2 hh2 hlo2 hro2 hbe2
    go_wp2_with fail
    refine (theirs_any ((H.out.below HB1.out).below HB2.out) HLN.out).mono ?_
    rintro e w3 ⟨v7, rfl, hrow3, hb3⟩
    have HR3 := Lib.hid hrow3
    have HB3 := Lib.hid hb3
    clear hrow3 hb3
    go_wp2_with fail
    refine (rNew_any (PR.of_own HR3.out) HLN.out).mono ?_
    rintro e w4 ⟨rb, Ar, cr, rfl, hrb4, hbe4, hrlo, halo⟩
    have hz1 : w.heap.size ≤ w1.heap.size := HB1.out.size
    have hz2 : w1.heap.size ≤ w2.heap.size := HB2.out.size
    have hz3 : w2.heap.size ≤ w3.heap.size := HB3.out.size
    have hs4 := (HS2.out.below HB3.out).below hbe4
    have hbw4 : Below w.heap.size w w4 := ((HB1.out.trans (HB2.out.mono hz1)).trans (HB3.out.mono (by omega))).trans (hbe4.mono (by omega))
    have hblt : b < w2.heap.size := HS2.out.hb.ltb
    have hslt := HS2.out.hb.ltr
    have hdi : DI w (n + tot (ds.take 0)) b sv M0 rb Ar cr (srt l) w4 :=
      ⟨hbw4, ⟨hs4.hb, hs4.hh, by have := HS2.out.lo; omega, fun g hg => by have := HS2.out.ro g hg; omega, by have := hs4.sz; omega⟩, by have := HP2.out.length_eq; have := HN.out; omega, hrb4, by omega, fun ad e => by have := halo ad e; omega,
        ⟨by omega, fun e => by have := hslt rb e; omega⟩, fun ad e => ⟨by have := halo ad e; omega, fun e' => by have := halo ad e; have := hslt _ e'; omega⟩⟩
    have hown4 := own_keep (own_keep (own_keep HOWN.out (p := fun _ => True) (Keep.of_below HB2.out) (fun _ _ => trivial)) (p := fun _ => True) (Keep.of_below HB3.out) (fun _ _ => trivial)) (p := fun _ => True) (Keep.of_below hbe4) (fun _ _ => trivial)
    have hv5 : ∀ g, v5.ownBlock = some g → w.heap.size ≤ g ∧ Off b sv g ∧ g ≠ rb ∧ ∀ ad, Ar = some ad → ad.block ≠ g := fun g hg => by
      obtain ⟨g1, g2⟩ := HOWN.out.lt g hg
      refine ⟨g1, ⟨by have := HS2.out.lo; omega, fun e => by have := HS2.out.ro g e; omega⟩, by omega, fun ad e => by have := halo ad e; omega⟩
    have hsr : srt M0 = srt l := srt_congr HP2.out
    have HDI := Lib.hid hdi
    have HO4 := Lib.hid hown4
    have HV5 := Lib.hid hv5
    have HSR := Lib.hid hsr
    clear hrb4 hbe4 hrlo halo hz1 hz2 hz3 hs4 hbw4 hblt hslt hdi hown4 hv5 hsr
    go_wp2_with fail
    refine (over_any HO4.out HLN.out).mono ?_
    rintro e w5 ⟨rfl, hk5⟩
    have hdi5 := HDI.out.over hk5 HV5.out
    rw [← HSR.out] at hdi5
    have HD5 := Lib.hid hdi5
    clear hk5 hdi5
    go_wp2_with fail
    go_loopw [6, 8] (fun hv i wr => ∃ q : Nat, q ≤ m ∧ i = .int .i64 q ∧ ∃ b sv M A c, hv = .pointer (some ⟨b, 0, none⟩) ∧ DI w (n + tot (ds.take q)) b sv M rb A c (srt M) wr) (fun _ i _ => m - (intOf i).toNat)
    case atStart => exact ⟨0, Nat.zero_le _, rfl, b, sv, M0, Ar, cr, rfl, HD5.out⟩
    case round =>
      obtain ⟨q, hq, rfl, b, sv, M, A, cA, rfl, hdi⟩ := hrel
      have HDI := Lib.hid hdi
      clear hdi
      by_cases hlt : q < m
      · have hqd : q < ds.length := by rw [HM.out]; exact hlt
        have htot : n + tot (ds.take (q + 1)) ≤ 600 := by have := tot_take_le ds (q + 1); have := HSM.out; omega
        have htq := tot_take_succ hqd
        obtain ⟨ad, vi, e1, hadl, d0, d1, d2, d3, hpi, hoi⟩ := (HD.out.below HDI.out.be (Nat.le_refl _)).at hqd
        subst e1
        obtain ⟨D, hD⟩ : ∃ D, ds[q] = D := ⟨_, rfl⟩
        rw [hD] at d0 d1 d2 hpi hoi htq
        have hpi2 := hpi
        obtain ⟨Ai, ci, ei, _⟩ := hpi2
        subst ei
        have hbx := heap_alloc_new wr (.cells #[.int .i64 D.what, .int .i64 D.key, .int .i64 D.many, .slice Ai D.items.length ci] 34)
        have hbw : Below wr.heap.size wr (wr.alloc (.cells #[.int .i64 D.what, .int .i64 D.key, .int .i64 D.many, .slice Ai D.items.length ci] 34)) := (Below.refl _ wr).alloc (Nat.le_refl _) _
        have hszx : wr.heap.size < (wr.alloc (.cells #[.int .i64 D.what, .int .i64 D.key, .int .i64 D.many, .slice Ai D.items.length ci] 34)).heap.size := by simp
        have HBX := Lib.hid hbx
        have HBW := Lib.hid hbw
        have HSZX := Lib.hid hszx
        clear hbx hbw hszx
        go_upto_region 10 with (fail)
        have hpick := pick_any D.what 4 (wr.alloc (.cells #[.int .i64 D.what, .int .i64 D.key, .int .i64 D.many, .slice Ai D.items.length ci] 34)) (by omega) (by omega)
        obtain ⟨pk, hpk⟩ : ∃ pk, D.what % 4 = pk := ⟨_, rfl⟩
        have hp1 : 0 ≤ pk := by omega
        have hp2 : pk < 4 := by omega
        rw [hpk] at hpick
        clear hpk
        go_upto_block 2 with (go_at_call 13; refine hpick.mono ?_; rintro e w9 ⟨rfl, rfl⟩)
        have hD1 := HDI.out.below HBW.out
        have HD1 := Lib.hid hD1
        have hprD : PR (wr.alloc (.cells #[.int .i64 D.what, .int .i64 D.key, .int .i64 D.many, .slice Ai D.items.length ci] 34)) (.slice Ai D.items.length ci) D.items := PR.below hpi HBW.out
        have HPRD := Lib.hid hprD
        have HOI := Lib.hid hoi
        have HTQ := Lib.hid htq
        clear hpick hD1 hprD d0 d1 d2 d3 hoi htq hpi
        obtain ⟨X, hX⟩ : ∃ X, wr.heap.size = X := ⟨_, rfl⟩
        obtain ⟨W, hW⟩ : ∃ W, wr.alloc (.cells #[.int .i64 D.what, .int .i64 D.key, .int .i64 D.many, .slice Ai D.items.length ci] 34) = W := ⟨_, rfl⟩
        rw [hX] at HBX HSZX ⊢
        rw [hW] at HBX HSZX HD1 HPRD HBW ⊢
        have HXW := Lib.hid hX
        clear hX hW
        go_cut [6] from 39 to 177 (fun hv wc => ∃ b sv M A c, hv = .pointer (some ⟨b, 0, none⟩) ∧ DI w (n + tot (ds.take (q + 1))) b sv M rb A c (srt M) wc)
        case rest =>
          obtain ⟨b, sv, M, A, cA, rfl, hdi⟩ := hcut
          have HDC := Lib.hid hdi
          have hml : M.length ≤ 600 := by have := hdi.ml; omega
          have hfst := first_any hdi.hs.hb (by unfold maxLen; omega)
          unfold FirstR at hfst
          obtain ⟨x, hx⟩ : ∃ x, g M 0 = x := ⟨_, rfl⟩
          obtain ⟨tb, htb⟩ : ∃ tb, decide (0 < M.length) = tb := ⟨_, rfl⟩
          have hgs : g (srt M) 0 = x := by
            by_cases h0 : M.length = 0
            · have e : M = [] := List.eq_nil_of_length_eq_zero h0
              subst e
              exact hx
            · rw [srt_g0 hdi.hs.hh (by omega)]; exact hx
          rw [hx, htb] at hfst
          have HGS := Lib.hid hgs
          have HTB := Lib.hid htb
          clear hdi hx hgs htb
          go_wp2_with fail
          refine hfst.mono ?_
          rintro e w1 ⟨rfl, hb1⟩
          clear hfst
          have hb2 : Below wc.heap.size wc (w1.alloc (.cells #[.int .i64 x.1, .int .i64 x.2] 40)) := hb1.alloc hb1.size _
          have hz1 := heap_alloc_new w1 (.cells #[.int .i64 x.1, .int .i64 x.2] 40)
          have hd2 := HDC.out.below hb2
          have hl2 : w1.heap.size < (w1.alloc (.cells #[.int .i64 x.1, .int .i64 x.2] 40)).heap.size := by simp
          have hrf := rFirst_any hd2.rbk (by rw [srt_len]; omega)
          unfold FirstR at hrf
          rw [HGS.out, srt_len, HTB.out] at hrf
          have HZ1 := Lib.hid hz1
          have HD2 := Lib.hid hd2
          have HL2 := Lib.hid hl2
          clear hb1 hb2 hz1 hd2 hl2
          go_wp2_with fail
          refine hrf.mono ?_
          rintro e w3 ⟨rfl, hb3⟩
          clear hrf
          have hb4 : Below (w1.alloc (.cells #[.int .i64 x.1, .int .i64 x.2] 40)).heap.size (w1.alloc (.cells #[.int .i64 x.1, .int .i64 x.2] 40)) (w3.alloc (.cells #[.int .i64 x.1, .int .i64 x.2] 43)) := hb3.alloc hb3.size _
          have hz2 := heap_alloc_new w3 (.cells #[.int .i64 x.1, .int .i64 x.2] 43)
          have hz3 := (hb4.block _ HL2.out).trans HZ1.out
          have hd4 := HD2.out.below hb4
          have hl4 : w3.heap.size < (w3.alloc (.cells #[.int .i64 x.1, .int .i64 x.2] 43)).heap.size := by simp
          have hl5 : w1.heap.size < (w3.alloc (.cells #[.int .i64 x.1, .int .i64 x.2] 43)).heap.size := Nat.lt_of_lt_of_le HL2.out hb4.size
          have hit := items_any hd4.hs.hb (by omega)
          have HZ2 := Lib.hid hz2
          have HZ3 := Lib.hid hz3
          have HD4 := Lib.hid hd4
          have HL4 := Lib.hid hl4
          have HL5 := Lib.hid hl5
          clear hb3 hb4 hz2 hz3 hd4 hl4 hl5
          go_wp2_with fail
          refine hit.mono ?_
          rintro e w5 ⟨v21, rfl, hrow, hb5⟩
          clear hit
          obtain ⟨Av, cv, rfl, _⟩ := row_form hrow
          have hd5 := HD4.out.below hb5
          have hz4 := (hb5.block _ HL4.out).trans HZ2.out
          have hz5 := (hb5.block _ HL5.out).trans HZ3.out
          obtain ⟨p0, p1, _, _⟩ := res_cells hz5
          have p2 := cell_of_row _ _ 0 _ 43 (0, 0) hz4
          have p3 := cell_of_row _ _ 1 _ 43 (0, 0) hz4
          obtain ⟨r0, _⟩ := hd5.rbk.cells
          rw [srt_len] at r0
          have L1 := len_any (hd5.hs.hb.below (Below.refl _ w5).drew)
          have L3 : Calls Try.prog 25 #[.pointer (some ⟨b, 0, none⟩)] w5.drew fun e w' => e = .returned (.int .i64 M.length) ∧ w' = w5.drew := L1.mono fun e w' h => ⟨h.1, h.2.symm⟩
          have HROW := Lib.hid hrow
          have HD5' := Lib.hid hd5
          clear L1 hz4 hz5 hrow hd5
          obtain ⟨Y1, hY1⟩ : ∃ Y1, w1.heap.size = Y1 := ⟨_, rfl⟩
          obtain ⟨Y3, hY3⟩ : ∃ Y3, w3.heap.size = Y3 := ⟨_, rfl⟩
          rw [hY1] at p0 p1
          rw [hY3] at p2 p3
          have HY1 := Lib.hid hY1
          have HY3 := Lib.hid hY3
          clear hY1 hY3
          go_upto_region 33 with (fail)
          rw [HY1.out, HY3.out]
          go_still_tail 33, (by kernel_rfl)
          still_call L3
          repeat still_step
          try refine wpStill_nil ?_
          change wpList _ _ _ _ _ w5.drew
          have hbd : Below w5.heap.size w5 w5.drew := (Below.refl _ _).drew
          have hpv : PR w5.drew (.slice Av M.length cv) (srt M) := (PR.of_own HROW.out).below hbd
          have hpr : PR w5.drew (.slice A M.length cA) (srt M) := by
            have := (HD5'.out.below hbd).rbk.row
            rwa [srt_len] at this
          have hsame := same_any hpv hpr (by rw [srt_len]; omega)
          have HBD := Lib.hid hbd
          clear hbd hpv hpr p0 p1 p2 p3 r0 L3
          obtain ⟨W5, hW5⟩ : ∃ W5, w5.drew = W5 := ⟨_, rfl⟩
          rw [hW5] at HBD hsame ⊢
          clear hW5
          go_wp2_with fail
          refine hsame.mono ?_
          rintro e w6 ⟨rfl, hb6⟩
          clear hsame
          have hb56 : Below w5.heap.size w5 w6 := HBD.out.trans (hb6.mono HBD.out.size)
          have hd6 := HD5'.out.below hb56
          have hov := over_any (l := srt M) (v := .slice Av M.length cv) (by rw [srt_len]; exact own_keep HROW.out (p := fun _ => True) (Keep.of_below hb56) (fun _ _ => trivial)) (by rw [srt_len]; omega)
          have HD6 := Lib.hid hd6
          clear hb6 hb56 hd6
          go_wp2_with fail
          refine hov.mono ?_
          rintro e w7 ⟨rfl, hk7⟩
          clear hov
          have hd7 := HD6.out.over hk7 fun g hg => by
            obtain ⟨g1, g2⟩ := HROW.out.lt g hg
            have h1 := HD4.out.be.size
            have h2 := HD4.out.rbk.ltb
            refine ⟨by omega, HD4.out.hs.hb.off g1, by omega, fun ad e => by have := (HD4.out.rbk.lt ad e).1; omega⟩
          have HD7 := Lib.hid hd7
          clear hk7 hd7
          go_wp2_with fail
          go_roundw
          case rel =>
            exact ⟨q + 1, by omega, by go_num, b, sv, M, A, cA, rfl, HD7.out⟩
          case measure => simp [intOf] <;> omega
        case first =>
          have hXo : Off b sv X ∧ X ≠ rb ∧ ∀ ad, A = some ad → ad.block ≠ X := ⟨by rw [← HXW.out]; exact HDI.out.hs.hb.off (Nat.le_refl _), by have := HDI.out.rbk.ltb; have := HXW.out; omega, fun ad e => by have := (HDI.out.rbk.lt ad e).1; have := HXW.out; omega⟩
          have HXO := Lib.hid hXo
          have hml : M.length ≤ 600 := by have := HD1.out.ml; have := HTQ.out; omega
          have x0 : W.cell? ⟨X, 0, none⟩ = some (.int .i64 D.what) := cell_of_row _ _ 0 _ 34 (0, 0) HBX.out
          have x1 : W.cell? ⟨X, 1, none⟩ = some (.int .i64 D.key) := cell_of_row _ _ 1 _ 34 (0, 0) HBX.out
          have x2 : W.cell? ⟨X, 2, none⟩ = some (.int .i64 D.many) := cell_of_row _ _ 2 _ 34 (0, 0) HBX.out
          have x3 : W.cell? ⟨X, 3, none⟩ = some (.slice Ai D.items.length ci) := cell_of_row _ _ 3 _ 34 (0, 0) HBX.out
          have hXl : X < W.heap.size := HSZX.out
          clear hXo
          rcases (by omega : pk = 0 ∨ pk = 1 ∨ pk = 2 ∨ pk = 3) with rfl | rfl | rfl | rfl
          · have hal : Below W.heap.size W (W.alloc (.cells #[] 40)) := (Below.refl _ W).alloc (Nat.le_refl _) _
            have hro : (W.alloc (.cells #[] 40)).ownsRow W.heap.size 40 2 (.slice (some ⟨W.heap.size, 0, none⟩) 0 0) 0 [] := World.ownsRow_lit W #[] 0 (Nat.le_refl _) (by unfold maxLen; omega) rfl
            have hpr := HPRD.out.below hal
            have HAL := Lib.hid hal
            have hit : M.length + D.items.length ≤ n + tot (ds.take (q + 1)) := by have := HD1.out.ml; have := HTQ.out; omega
            have HIT := Lib.hid hit
            clear hal hit
            go_wp2_with (at_builtin; refine wpList_append_pr rfl _ _ rfl (base := W.heap.size) Try.underlying22 hi hz0 hz1 hz2 (v := .slice (some ⟨W.heap.size, 0, none⟩) 0 0) rfl hro (v2 := .slice Ai D.items.length ci) rfl hpr (by have := HIT.out; omega) (by simp) ?_; intro v10 w1 hown hgrow _; have hb1 : Below W.heap.size W w1 := HAL.out.grown hgrow HAL.out.size (fun k e => by cases e; exact Nat.le_refl _); have HB1 := Lib.hid hb1; have HOWN := Lib.hid hown; clear hb1 hown hgrow)
            have hown : w1.ownsRow W.heap.size 40 2 v10 D.items.length (flat D.items) := by simpa using HOWN.out
            have hd1 := HD1.out.below HB1.out
            have hv10 : ∀ g, v10.ownBlock = some g → w.heap.size ≤ g ∧ W.heap.size ≤ g ∧ g < w1.heap.size ∧ Off b sv g := fun g hg => by
              obtain ⟨g1, g2⟩ := hown.lt g hg
              exact ⟨Nat.le_trans HD1.out.be.size g1, g1, g2, HD1.out.hs.hb.off g1⟩
            have hpush := push_any hd1.hs.hb hd1.hs.hh (PR.of_own hown) (fun _ g hg => (hv10 g hg).2.2.2) (by have := HIT.out; omega)
            have HOWN1 := Lib.hid hown
            have HDA := Lib.hid hd1
            have HV10 := Lib.hid hv10
            clear hown hd1 hv10 hro hpr x0 x1 x2 x3
            refine hpush.mono ?_
            rintro e w2 ⟨rfl, ht⟩
            clear hpush
            obtain ⟨sv2, M2, hd2, hp2, ho2⟩ := HDA.out.hturn ht (n' := n + tot (ds.take (q + 1))) (by rw [List.length_append]; exact HIT.out)
            obtain ⟨_, _, _, _, _, _, hk2⟩ := ht
            have hrow2 := own_keep HOWN1.out hk2 fun g hg => (HV10.out g hg).2.2.2
            have hx2 := (hk2.block X (Nat.lt_of_lt_of_le HSZX.out HB1.out.size) HXO.out.1).trans ((HB1.out.block X HSZX.out).trans HBX.out)
            have hov := over_any hrow2 (by have := HIT.out; omega)
            have HD2 := Lib.hid hd2
            have HP2 := Lib.hid hp2
            have HO2 := Lib.hid ho2
            have HX2 := Lib.hid hx2
            have HZ12 := Lib.hid hk2.size
            clear hd2 hp2 ho2 hk2 hrow2 hx2
            go_wp2_with fail
            refine hov.mono ?_
            rintro e w3 ⟨rfl, hk3⟩
            clear hov
            have hd3 := HD2.out.over hk3 fun g hg => by
              obtain ⟨g1, g2, g3, g4⟩ := HV10.out g hg
              exact ⟨g1, HO2.out g g3 g4, by have := HD1.out.rbk.ltb; omega, fun ad e => by have := (HD1.out.rbk.lt ad e).1; omega⟩
            have hx3 := (hk3.block X (by have := HZ12.out; have := HB1.out.size; have := HSZX.out; omega) fun e => by have := (HV10.out X e).2.1; have := HSZX.out; omega).trans HX2.out
            have y3 : w3.cell? ⟨X, 3, none⟩ = some (.slice Ai D.items.length ci) := cell_of_row _ _ 3 _ 34 (0, 0) hx3
            have hpr3 : PR w3 (.slice Ai D.items.length ci) D.items := HPRD.out.keep (Keep.of_belowN (below_between HD1.out.be hd3.be (by have := HB1.out.size; have := HZ12.out; have := hk3.size; omega))) fun h0 g hg _ => HOI.out h0 g hg
            have hth := theirs_any hpr3 (by have := HIT.out; omega)
            have HD3 := Lib.hid hd3
            clear hk3 hd3 hx3 hpr3
            go_wp2_with fail
            refine hth.mono ?_
            rintro e w4 ⟨v16, rfl, hrow4, hb4⟩
            clear hth
            have hd4 := HD3.out.below hb4
            have hrp := rPush_any hd4.rbk (srt_srt M) (PR.of_own hrow4) (fun _ g hg e => by have := (hrow4.lt g hg).1; have := HD3.out.rbk.ltb; omega) (by rw [srt_len]; have := HIT.out; omega)
            have HD4 := Lib.hid hd4
            clear hd4 hrow4 hb4
            go_wp2_with fail
            refine hrp.mono ?_
            rintro e w5 ⟨rfl, hrt⟩
            clear hrp
            obtain ⟨A5, c5, hd5, _⟩ := HD4.out.rturn hrt
            rw [srt_app, ← srt_congr HP2.out] at hd5
            have HD5 := Lib.hid hd5
            clear hd5 hrt
            go_wp2_with fail
            go_meet
            case rel => exact ⟨b, sv2, M2, A5, c5, rfl, HD5.out⟩
          · have hpop := pop_any HD1.out.hs.hb HD1.out.hs.hh (by omega)
            unfold PopR at hpop
            have hrp0 := fun (w2 : World) (hb : RB w2 rb A cA (srt M)) => rPop_any hb (by rw [srt_len]; omega)
            obtain ⟨x, hx⟩ : ∃ x, g M 0 = x := ⟨_, rfl⟩
            obtain ⟨tb, htb⟩ : ∃ tb, decide (0 < M.length) = tb := ⟨_, rfl⟩
            have hgs : g (srt M) 0 = x := by
              by_cases h0 : M.length = 0
              · have e : M = [] := List.eq_nil_of_length_eq_zero h0
                subst e
                exact hx
              · rw [srt_g0 HD1.out.hs.hh (by omega)]; exact hx
            rw [hgs, srt_len, htb] at hrp0
            rw [hx, htb] at hpop
            have HRP := Lib.hid hrp0
            clear hx htb hgs hrp0 x0 x1 x2 x3
            go_wp2_with fail
            refine hpop.mono ?_
            rintro e w1 ⟨rfl, ht⟩
            clear hpop
            obtain ⟨sv1, M1, hd1, hp1, ho1⟩ := HD1.out.hturn ht (n' := n + tot (ds.take (q + 1))) (by rw [cut_len]; have := HD1.out.ml; have := HTQ.out; omega)
            have hb2 : Below w1.heap.size w1 (w1.alloc (.cells #[.int .i64 x.1, .int .i64 x.2] 40)) := (Below.refl _ w1).alloc (Nat.le_refl _) _
            have hz2 := heap_alloc_new w1 (.cells #[.int .i64 x.1, .int .i64 x.2] 40)
            have hl2 : w1.heap.size < (w1.alloc (.cells #[.int .i64 x.1, .int .i64 x.2] 40)).heap.size := by simp
            have hd2 := hd1.below hb2
            have hne2 : w1.heap.size ≠ rb := by have := hd1.rbk.ltb; omega
            have hrp := HRP.out _ hd2.rbk
            have HD2 := Lib.hid hd2
            have HP1 := Lib.hid hp1
            have HZ2 := Lib.hid hz2
            have HL2 := Lib.hid hl2
            have HNE2 := Lib.hid hne2
            clear ht hd1 hp1 ho1 hb2 hz2 hl2 hd2 hne2
            go_wp2_with fail
            refine hrp.mono ?_
            rintro e w3 ⟨rfl, hrt⟩
            clear hrp
            obtain ⟨A3, c3, hd3, _⟩ := HD2.out.rturn hrt
            rw [← srt_tail HD1.out.hs.hh HP1.out] at hd3
            obtain ⟨_, _, _, hk3, _⟩ := hrt
            have hz3 := (hk3.block _ HL2.out HNE2.out).trans HZ2.out
            have hb4 : Below w3.heap.size w3 (w3.alloc (.cells #[.int .i64 x.1, .int .i64 x.2] 43)) := (Below.refl _ w3).alloc (Nat.le_refl _) _
            have hd4 := hd3.below hb4
            have hz4 := (hb4.block _ (Array.getElem?_eq_some_iff.1 hz3).1).trans hz3
            have hz5 := heap_alloc_new w3 (.cells #[.int .i64 x.1, .int .i64 x.2] 43)
            have y0 := cell_of_row _ _ 0 _ 40 (0, 0) hz4
            have y1 := cell_of_row _ _ 1 _ 40 (0, 0) hz4
            have y2 := cell_of_row _ _ 0 _ 43 (0, 0) hz5
            have y3 := cell_of_row _ _ 1 _ 43 (0, 0) hz5
            have HD4 := Lib.hid hd4
            clear hd3 hk3 hz3 hb4 hd4 hz4 hz5
            go_wp2_with fail
            go_meet
            case rel => exact ⟨b, sv1, M1, A3, c3, rfl, HD4.out⟩
          · have hpk2 := pick_any D.many 9 W (by omega) (by omega)
            obtain ⟨nn, hnn⟩ : ∃ nn, D.many % 9 = nn := ⟨_, rfl⟩
            have hn1 : 0 ≤ nn := by omega
            have hn2 : nn ≤ 1000000 := by omega
            rw [hnn] at hpk2
            clear hnn x0 x3
            go_upto_region 24 with (go_at_call 13; refine hpk2.mono ?_; rintro e w' ⟨rfl, hw'⟩; obtain rfl : W = w' := hw'.symm)
            have hbd : Below W.heap.size W W.drew := (Below.refl _ W).drew
            have hdD := HD1.out.below hbd
            have HDD := Lib.hid hdD
            have htk := taken_any hdD.hs.hb hdD.hs.hh (by omega) D.key nn hn2
            obtain ⟨res, hres⟩ : ∃ res, (tk D.key nn.toNat (srt M)).1 = res := ⟨_, rfl⟩
            obtain ⟨rest, hrest⟩ : ∃ rest, (tk D.key nn.toNat (srt M)).2 = rest := ⟨_, rfl⟩
            have hlens : res.length + rest.length = M.length := by rw [← hres, ← hrest, tk_lens, srt_len]
            rw [hres, hrest] at htk
            have hup := fun (w1 : World) (hb : RB w1 rb A cA (srt M)) => rUp_any hb (by rw [srt_len]; omega) D.key nn hn2
            rw [hres, hrest] at hup
            have HUP := Lib.hid hup
            have HLENS := Lib.hid hlens
            have hXd : X < W.drew.heap.size := HSZX.out
            have hxd : W.drew.heap[X]? = some (.cells #[.int .i64 D.what, .int .i64 D.key, .int .i64 D.many, .slice Ai D.items.length ci] 34 (0, 0)) := HBX.out
            have HXd := Lib.hid hXd
            have HXD := Lib.hid hxd
            have k1 : W.drew.cell? ⟨X, 1, none⟩ = some (.int .i64 D.key) := x1
            clear hpk2 hbd hdD hres hrest hup hlens hXd hxd
            go_region_held3 (fun w' => w'.cell? ⟨X, 1, none⟩ = some (.int .i64 D.key)) (first | exact x1 | exact k1 | assumption | (go_keep; done)) (first | (go_at_call 19; refine htk.mono ?_; rintro e w1 ⟨v1, sv1, M1, rfl, hpr1, hvo1, hb1, hh1, hsr1, hlo1, hk1, hvf1⟩; have hx1 := (hk1.block X HXd.out HXO.out.1).trans HXD.out; have z1 : w1.cell? ⟨X, 1, none⟩ = some (.int .i64 D.key) := cell_of_row _ _ 1 _ 34 (0, 0) hx1; obtain ⟨sv3, M3, hd1, hp3, ho3⟩ := HDD.out.hturn ⟨sv1, M1, hb1, List.Perm.refl M1, hh1, hlo1, hk1⟩ (n' := n + tot (ds.take (q + 1))) (by rw [← srt_len, hsr1]; have := HLENS.out; have := HD1.out.ml; have := HTQ.out; omega); have HD1' := Lib.hid hd1; have HPR1 := Lib.hid hpr1; have HS3 := Lib.hid ((srt_congr hp3).trans hsr1); have HX1 := Lib.hid hx1; have HV1 := Lib.hid (show ∀ g, v1.ownBlock = some g → g ≠ rb from fun g hg e => by have h1 := hvo1 g hg; have h2 := HD1.out.rbk.ltb; have h3 : W.drew.heap.size = W.heap.size := rfl; omega); clear hpr1 hvo1 hb1 hh1 hsr1 hlo1 hk1 hvf1 hd1 hp3 ho3 hx1) | (go_at_call 20; refine (HUP.out _ HD1'.out.rbk).mono ?_; rintro e w2 ⟨v9, A9, c9, rfl, hrow9, hrb9, hk9, hsm9⟩; obtain ⟨A8, c8, hd8, _⟩ := HD1'.out.rturn ⟨A9, c9, hrb9, hk9, fun ad e => .inl (hsm9 ad e)⟩; have hx2 := (hk9.block X (Array.getElem?_eq_some_iff.1 HX1.out).1 HXO.out.2.1).trans HX1.out; have z2 : w2.cell? ⟨X, 1, none⟩ = some (.int .i64 D.key) := cell_of_row _ _ 1 _ 34 (0, 0) hx2; have HPR2 := Lib.hid (HPR1.out.keep hk9 fun _ g hg _ => HV1.out g hg); have HR9 := Lib.hid hrow9; have HD8 := Lib.hid hd8; have HX2 := Lib.hid hx2; clear hrow9 hrb9 hk9 hsm9 hd8 hx2) | (go_at_call 18; refine (same_any HPR2.out (PR.of_own HR9.out) (by have := HLENS.out; omega)).mono ?_; rintro e w3 ⟨rfl, hb3⟩; have hx3 := (hb3.block X (Array.getElem?_eq_some_iff.1 HX2.out).1).trans HX2.out; have z3 : w3.cell? ⟨X, 1, none⟩ = some (.int .i64 D.key) := cell_of_row _ _ 1 _ 34 (0, 0) hx3; have HD7 := Lib.hid (HD8.out.below hb3); clear hb3 hx3))
            all_goals
              rw [← HS3.out] at HD7
              go_wp2_with fail
              go_meet
              case rel => exact ⟨b, _, _, _, _, rfl, HD7.out⟩
          · have hcp := copy_any HD1.out.hs.hb (by omega)
            clear x0 x3
            go_wp2_with fail
            refine hcp.mono ?_
            rintro e w1 ⟨b1, sv1, M1, rfl, hb1, hp1, hh1, hlo1, hro1, hbe1⟩
            clear hcp
            have hd1 := HD1.out.below hbe1
            have hxw := (hbe1.block X HSZX.out).trans HBX.out
            have z1 : w1.cell? ⟨X, 1, none⟩ = some (.int .i64 D.key) := cell_of_row _ _ 1 _ 34 (0, 0) hxw
            have z2 : w1.cell? ⟨X, 2, none⟩ = some (.int .i64 D.many) := cell_of_row _ _ 2 _ 34 (0, 0) hxw
            have hal : Below w1.heap.size w1 (w1.alloc (.cells #[.int .i64 D.key, .int .i64 D.many] 40)) := (Below.refl _ w1).alloc (Nat.le_refl _) _
            have hd2 := hd1.below hal
            have hnew : DI w (n + tot (ds.take (q + 1))) b1 sv1 M1 rb A cA (srt M) w1 :=
              ⟨hd1.be, ⟨hb1, hh1, by have := HD1.out.be.size; omega, fun g hg => by have := hro1 g hg; have := HD1.out.be.size; omega, hd1.be.size⟩, by have := hp1.length_eq; have := HD1.out.ml; have := HTQ.out; omega, hd1.rbk, hd1.rlo, hd1.alo,
                ⟨by have := HD1.out.rbk.ltb; omega, fun e => by have := hro1 _ e; have := HD1.out.rbk.ltb; omega⟩, fun ad e => ⟨by have := (HD1.out.rbk.lt ad e).1; omega, fun e' => by have := hro1 _ e'; have := (HD1.out.rbk.lt ad e).1; omega⟩⟩
            rw [← srt_congr hp1] at hnew
            have hnw2 := hnew.below hal
            have hpush := push_any hd2.hs.hb hd2.hs.hh (pr_new w1 [(D.key, D.many)] 1 1 rfl) (fun _ g hg => by cases hg; exact hd1.hs.hb.off (Nat.le_refl _)) (by simp; omega)
            have HD2 := Lib.hid hd2
            have HNW := Lib.hid hnw2
            have HB1L := Lib.hid (show W.heap.size ≤ b1 ∧ ∀ g, sv1.ownBlock = some g → W.heap.size ≤ g from ⟨hlo1, hro1⟩)
            clear hb1 hp1 hh1 hlo1 hro1 hbe1 hd1 hxw hal hd2 hnew hnw2
            go_wp2_with fail
            refine hpush.mono ?_
            rintro e w3 ⟨rfl, ht⟩
            clear hpush
            obtain ⟨_, _, _, _, _, _, hk3⟩ := ht
            have hd3 := HNW.out.keep hk3 (fun k hk => ⟨by have := HD1.out.hs.lo; omega, fun e => by have := HD1.out.hs.ro k e; omega⟩) ⟨by have := HD1.out.hs.hb.ltb; have := HB1L.out.1; omega, fun e => by have := HD1.out.hs.hb.ltr _ e; have := HB1L.out.1; omega⟩
              (fun g hg => ⟨by have := HD1.out.hs.hb.ltb; have := HB1L.out.2 g hg; omega, fun e => by have := HD1.out.hs.hb.ltr _ e; have := HB1L.out.2 g hg; omega⟩) HD1.out.off HD1.out.offA
            have HD3 := Lib.hid hd3
            clear hk3 hd3
            go_wp2_with fail
            go_meet
            case rel => exact ⟨b1, sv1, M1, A, cA, rfl, HD3.out⟩
      · obtain rfl : m = q := by omega
        go_wp2_with fail
        refine (awake_any _).mono ?_
        rintro e w9 ⟨rfl, hb9⟩
        have HB9 := Lib.hid hb9
        clear hb9
        go_wp2_with fail
        go_ret
        exact ⟨rfl, HDI.out.be.trans (HB9.out.mono HDI.out.be.size)⟩
end Go.Proofs.Ytabbgananngjlaa
