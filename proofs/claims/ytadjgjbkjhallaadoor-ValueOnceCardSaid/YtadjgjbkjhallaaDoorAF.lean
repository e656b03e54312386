/- Walk of the law of sets. -/
import Derived.Test.YtadjgjbkjhallaaDoorAE
import Derived.Lib.QuietBelow
import Derived.BigQuiet
namespace Go.Proofs.YtadjgjbkjhallaaDoor
open Go.ChangeShapes Go.WideShapes Go.ChangeAt Go.RowKit Go.Deep
set_option linter.unusedVariables false

theorem le_tot {ls : List (List Vt)} : ∀ l ∈ ls, l.length ≤ tot ls := by
  unfold tot
  intro l hl
  have : l.length ≤ (ls.map List.length).sum := by
    induction ls with
    | nil => cases hl
    | cons a r ih =>
      simp only [List.map_cons, List.sum_cons]
      rcases List.mem_cons.1 hl with rfl | h
      · omega
      · have := ih h; omega
  omega

set_option maxHeartbeats 1000000 in
theorem once_big {w : World} {v : Value} {ls : List (List Vt)} (x : Int) (htab : Tb w) (h : RRV w.heap.size w v ls) (hl : ls.length ≤ 281474976710656) (hls : ∀ l ∈ ls, l.length ≤ 281474976710656) (ht : ¬ tot ls ≤ 400) :
    Calls Tryd.prog 7 #[v, .int .i64 x] w fun e w' => e = .returned (.bool true) ∧ Below w.heap.size w w' := by
  have HR := Lib.hid h
  have HT := Lib.hid htab
  have HL := Lib.hid (And.intro hl hls)
  have HTT := Lib.hid ht
  clear h htab hl hls ht
  go_enter Tryd.func7, Tryd.ntmps7
  go_wp2_with fail
  refine (awake_any _ HT.out).mono ?_
  rintro e w1 ⟨rfl, hb1⟩
  have HB := Lib.hid hb1
  go_wp2_with fail
  refine (size_any (HR.out.below HB.out) HL.out.1 HL.out.2).mono ?_
  rintro e w2 ⟨m, rfl, hw, h0, hm⟩
  obtain rfl : w1 = w2 := hw
  have h4 : ¬ m ≤ 400 := fun h => HTT.out (hm.1 h)
  have h5 : 400 < m := by omega
  clear hm h4 hb1
  go_wp2_with fail
  go_ret
  exact ⟨rfl, HB.out⟩

set_option maxHeartbeats 2000000 in
set_option maxRecDepth 100000 in
theorem once_small {w : World} {v : Value} {ls : List (List Vt)} (x : Int) (htab : Tb w) (h : RRV w.heap.size w v ls) (hcap : CapOk v) (ht : tot ls ≤ 400) :
    Calls Tryd.prog 7 #[v, .int .i64 x] w fun e w' => e = .returned (.bool true) ∧ Below w.heap.size w w' := by
  obtain ⟨i0, hi, hz0, hz1, hz3⟩ := info_parts38
  have hzc : (Value.slice none 0 0).cells.size = 1 := rfl
  have hl : ls.length ≤ 400 := by unfold tot at ht; omega
  have hls : ∀ l ∈ ls, l.length ≤ 400 := fun l hl => Nat.le_trans (le_tot l hl) ht
  have HLS := Lib.hid (And.intro hl hls)
  have HR := Lib.hid h
  have HT := Lib.hid htab
  have HTT := Lib.hid ht
  obtain ⟨A, c, rfl⟩ := h.form
  have hcp := hcap _ _ _ rfl
  obtain ⟨n, hn⟩ : ∃ n, ls.length = n := ⟨_, rfl⟩
  have HN := Lib.hid hn
  rw [hn] at HR hl hcp ⊢
  obtain ⟨hcp1, hcp2⟩ := hcp
  obtain ⟨k, hk⟩ : ∃ k : Nat, x % ((n : Int) + 1) = (k : Int) := ⟨(x % ((n : Int) + 1)).toNat, by have := Int.emod_nonneg x (show (n : Int) + 1 ≠ 0 by omega); omega⟩
  have hkn : k ≤ n := by have := Int.emod_lt_of_pos x (show 0 < (n : Int) + 1 by omega); omega
  have hpick : ∀ W, Calls Tryd.prog 25 #[.int .i64 x, .int .i64 ((n : Int) + 1)] W fun e w' => e = .returned (.int .i64 (k : Int)) ∧ w' = W := fun W => by
    have := pick_any x ((n : Int) + 1) W (by omega) (by omega)
    rwa [hk] at this
  have HP := Lib.hid hpick
  clear h htab ht hls hcap hn hk hpick
  go_enter Tryd.func7, Tryd.ntmps7
  go_wp2_with fail
  refine (awake_any _ HT.out).mono ?_
  rintro e w1 ⟨rfl, hb1⟩
  have HB := Lib.hid hb1
  go_wp2_with fail
  refine (size_any (HR.out.below HB.out) (Nat.le_trans HLS.out.1 (by decide)) (fun l hl => Nat.le_trans (HLS.out.2 l hl) (by decide))).mono ?_
  rintro e w2 ⟨m, rfl, hw, h0, hm⟩
  obtain rfl : w1 = w2 := hw
  have h4 : m ≤ 400 := hm.2 HTT.out
  clear hm hb1
  go_wp2_with fail
  refine (set_any (HR.out.below HB.out) HB.out.size (Nat.le_trans HLS.out.1 (by decide)) (fun l hl => Nat.le_trans (HLS.out.2 l hl) (by decide))).mono ?_
  rintro e w2 ⟨v5, rfl, S, hs5, hset, hSl, hb2⟩
  have HS := Lib.hid hs5
  have HSET := Lib.hid hset
  have HSL := Lib.hid (And.intro (Nat.le_trans hSl HLS.out.1) (fun y hy => HLS.out.2 y ((hset.mem y).1 hy)))
  have HB2 := Lib.hid (HB.out.trans (hb2.mono HB.out.size))
  obtain ⟨A5, c5, rfl⟩ := hs5.form
  obtain ⟨n5, hn5⟩ : ∃ n, S.length = n := ⟨_, rfl⟩
  have HN5 := Lib.hid hn5
  rw [hn5] at HS ⊢
  clear hs5 hset hSl hb2 hn5
  go_wp2_with fail
  refine (HP.out _).mono ?_
  rintro e w3 ⟨rfl, hw⟩
  obtain rfl : w2 = w3 := hw.symm
  go_wp2_with fail
  have hrw := HR.out.below HB2.out
  obtain ⟨rvs, hro, hnr, hq, hadb⟩ := hrw.nr
  clear hq
  have hro' : RowsOf w2.heap.size w2 rvs ls := hro.mono HB2.out.size
  have HRO := Lib.hid hro'
  have hrl : rvs.length = n := by rw [hro.1, HN.out]
  have HONE := Lib.hid hro.one
  have hbw : Below w2.heap.size w2 (w2.alloc (.cells #[] 38)).drew := ((Below.refl _ w2).alloc (Nat.le_refl _) _).drew
  have hro1 : (w2.alloc (.cells #[] 38)).drew.ownsRow w2.heap.size 38 1 (.slice (some ⟨w2.heap.size, 0, none⟩) 0 0) 0 [] := (World.ownsRow_lit w2 #[] 0 (Nat.le_refl _) (by unfold maxLen; omega) rfl).drew
  have HBW := Lib.hid hbw
  have HO1 := Lib.hid (fun u hu => HONE.out u (List.mem_of_mem_drop (i := k) hu))
  have HO2 := HONE
  have HO3 := Lib.hid (fun u hu => HONE.out u (List.mem_of_mem_take (i := k) hu))
  have hk1 : (k : Int) ≤ (n : Int) := by omega
  have hk2 : (k : Int) ≤ (c : Int) := by omega
  have hk3 : (n : Int) ≤ (c : Int) := by omega
  clear hro hro' hrw hw h0 h4
  clear hbw
  rcases A with _ | ad
  · have hc0 : c = 0 := hcp2 rfl
    have hn0 : n = 0 := by omega
    have hk0 : k = 0 := by omega
    subst hc0 hn0 hk0
    have hrv : rvs = [] := List.eq_nil_of_length_eq_zero hrl
    subst hrv
    have hnn : ∀ W, NR W (.slice none 0 0) [] := fun W => ⟨none, 0, rfl, fun j u h => by simp at h⟩
    have hone0 : ∀ u ∈ ([] : List Value), u.oneCell' = true := fun u h => by cases h
    clear hnr hadb hcp2
    go_region_law (first
      | (refine step_append_nr rfl (.tmp 21) (.tmp 24) rfl (base := w2.heap.size) Tryd.underlying43 hi hz0 hzc hz1 hz3 (v := .slice (some ⟨w2.heap.size, 0, none⟩) 0 0) (by simp [Act.eval, Act.put]) hro1 (v2 := .slice none 0 0) (by simp [Act.eval, Act.put]) (l := []) (hnn _) hone0 (by simp) (by simp) ?_; intro va wa ga1 ga2 ga4; have hba : Below w2.heap.size w2 wa := HBW.out.grown ga2 HBW.out.size (fun j hj => by cases hj; exact Nat.le_refl _))
      | (refine step_append_nr rfl (.tmp 25) (.tmp 26) rfl (base := w2.heap.size) Tryd.underlying43 hi hz0 hzc hz1 hz3 (v := va) (by simp [Act.eval, Act.put]) ga1 (v2 := .slice none 0 0) (by simp [Act.eval, Act.put]) (l := []) (hnn _) hone0 (by simp) hba.size ?_; intro vb wb gb1 gb2 gb4; have hbb : Below w2.heap.size w2 wb := hba.grown gb2 hba.size (fun j hj => (ga1.lt j hj).1))
      | (refine step_append_nr rfl (.tmp 27) (.tmp 30) rfl (base := w2.heap.size) Tryd.underlying43 hi hz0 hzc hz1 hz3 (v := vb) (by simp [Act.eval, Act.put]) gb1 (v2 := .slice none 0 0) (by simp [Act.eval, Act.put]) (l := []) (hnn _) hone0 (by simp) hbb.size ?_; intro vc wc gc1 gc2 gc4; have hbc : Below w2.heap.size w2 wc := hbb.grown gc2 hbb.size (fun j hj => (gb1.lt j hj).1)))
    all_goals
      have hls0 : ls = [] := List.eq_nil_of_length_eq_zero HN.out
      have hT : RowsOf w2.heap.size wc ([] ++ [] ++ [] ++ []) [] := ⟨rfl, fun k h => by cases h⟩
      obtain ⟨T, hT1, hT2, hT3⟩ : ∃ T, RRV wc.heap.size wc vc T ∧ (∀ y, y ∈ T ↔ y ∈ ls) ∧ T.length ≤ 1000000 := ⟨[], RRV.of_own gc1 hT hbc.size, fun y => by rw [hls0], by simp⟩
      have HT1 := Lib.hid (And.intro hT1 (And.intro hT2 hT3))
      have HBC := Lib.hid hbc
      clear hls0 hT ga1 ga2 ga4 gb1 gb2 gb4 gc1 gc2 gc4 hba hbb hbc hT1 hT2 hT3 hro1 hrl
      go_wp2_with fail
      refine (set_any HT1.out.1 (Nat.le_refl _) HT1.out.2.2 (fun l hl => Nat.le_trans (HLS.out.2 l ((HT1.out.2.1 l).1 hl)) (by decide))).mono ?_
      rintro e w5 ⟨v33, rfl, S1, hs1, hset1, _, hb5⟩
      have e1 : S1 = S := hset1.one HSET.out HT1.out.2.1
      rw [e1] at hs1
      have HS1 := Lib.hid hs1
      have HC5 := Lib.hid (HBC.out.trans (hb5.mono HBC.out.size))
      clear hs1 hset1 hb5 e1
      go_wp2_with fail
      refine (sameR_any HS1.out (HS.out.below HC5.out) (Nat.le_refl _) HC5.out.size (Nat.le_trans HSL.out.1 (by decide)) (fun l hl => Nat.le_trans (HSL.out.2 l hl) (by decide))).mono ?_
      rintro e w6 ⟨rfl, hb6⟩
      have HC6 := Lib.hid (HC5.out.trans (hb6.mono HC5.out.size))
      clear hb6
      go_wp2_with fail
      refine (set_any (HS.out.below HC6.out) HC6.out.size (Nat.le_trans HSL.out.1 (by decide)) (fun l hl => Nat.le_trans (HSL.out.2 l hl) (by decide))).mono ?_
      rintro e w7 ⟨v39, rfl, S2, hs2, hset2, _, hb7⟩
      have e2 : S2 = S := hset2.one HSET.out.self (fun _ => Iff.rfl)
      rw [e2] at hs2
      have HS2 := Lib.hid hs2
      have HC7 := Lib.hid (HC6.out.trans (hb7.mono HC6.out.size))
      clear hs2 hset2 hb7 e2
      go_wp2_with fail
      refine (sameR_any HS2.out (HS.out.below HC7.out) (Nat.le_refl _) HC7.out.size (Nat.le_trans HSL.out.1 (by decide)) (fun l hl => Nat.le_trans (HSL.out.2 l hl) (by decide))).mono ?_
      rintro e w8 ⟨rfl, hb8⟩
      have HC8 := Lib.hid (HC7.out.trans (hb8.mono HC7.out.size))
      clear hb8
      have hl5 : n5 ≤ 400 := by have := HSL.out.1; have := HN5.out; omega
      go_wp2_with fail
      go_loopw [8] (fun i wr => ∃ q : Nat, 1 ≤ q ∧ q ≤ n5 + 1 ∧ i = .int .i64 q ∧ Below w8.heap.size w8 wr) (fun i _ => n5 - (Lib.intOf i).toNat)
      case atStart => exact ⟨1, Nat.le_refl _, by omega, rfl, Below.refl _ _⟩
      case round =>
        obtain ⟨q, hq1, hq2, rfl, hb⟩ := hrel
        have HB8 := Lib.hid hb
        have HCQ := Lib.hid (HC8.out.trans (hb.mono HC8.out.size))
        clear hb
        by_cases hlt : q < n5
        · obtain ⟨p, hp⟩ : ∃ p, q - 1 = p := ⟨_, rfl⟩
          have hpi : (q : Int) - 1 = (p : Int) := by omega
          have hpw : IntKind.i64.wrap (p : Int) = p := by simp [IntKind.wrap, IntKind.bits, IntKind.signed]; omega
          have hpn : p < n5 := by omega
          have hpq : p < q := by omega
          have hqS : q < S.length := by rw [HN5.out]; exact hlt
          have hpS : p < S.length := by rw [HN5.out]; exact hpn
          obtain ⟨adq, A1, c1, e1, _, hc1, hv1, _⟩ := (HS.out.below HCQ.out).at' hqS
          subst e1
          obtain ⟨adp, A2, c2, e2, _, hc2, hv2, _⟩ := (HS.out.below HCQ.out).at' hpS
          injection e2 with e2
          subst e2
          have hup : cmpR S[p] S[q] = -1 := List.pairwise_iff_getElem.1 HSET.out.up p q hpS hqS hpq
          have hly := HSL.out.2 S[q] (List.getElem_mem _)
          have hlx := HSL.out.2 S[p] (List.getElem_mem _)
          obtain ⟨y, hy⟩ : ∃ y, S[q] = y := ⟨_, rfl⟩
          obtain ⟨z, hz⟩ : ∃ z, S[p] = z := ⟨_, rfl⟩
          rw [hy] at hc1 hv1 hly hup
          rw [hz] at hc2 hv2 hlx hup
          have hcal : ∀ d os, Calls Tryd.prog 21 #[.slice A2 z.length c2, .slice A1 y.length c1] (Sort.grow (redrawn wr d) os) fun e w'' => e = .returned (.int .i64 (-1)) ∧ ∃ p : Regrown, w'' = Sort.grow (redrawn wr p.d) p.os := fun d os => Calls.regrown_of (by
            have h := rows_gr (hv2.below (below_regrown wr d os)) (hv1.below (below_regrown wr d os)) (Nat.le_trans hlx (by decide)) (Nat.le_trans hly (by decide))
            exact h.mono fun e w' h => ⟨by rw [h.1, hup], h.2.below⟩)
          obtain ⟨m1, hm1⟩ : ∃ m, y.length = m := ⟨_, rfl⟩
          obtain ⟨m2, hm2⟩ : ∃ m, z.length = m := ⟨_, rfl⟩
          rw [hm1] at hc1 hcal
          rw [hm2] at hc2 hcal
          have k1 := cell_regrown hc1
          have k2 := cell_regrown hc2
          clear hc1 hc2 hv1 hv2 hly hlx hup hm1 hm2 hp
          go_upto_region 13 with (fail)
          refine wp_region_quiet_below (by kernel_rfl) (by kernel_rfl) ?_
          repeat (first | go_big_quiet_skip | (go_big_quiet_want; go_big_quiet_op; first | go_big_quiet_on | go_big_quiet_call (exact hcal _ _)) | quiet_step (exact hcal _ _))
          refine wpQuiet_nil ?_
          intro _ hw'
          obtain ⟨⟨dq, osq⟩, hw''⟩ := hw'
          subst hw''
          have hbq := below_regrown wr dq osq
          generalize Sort.grow (redrawn wr dq) osq = WT at hbq ⊢
          have HBQ := Lib.hid (HB8.out.trans (hbq.mono HB8.out.size))
          clear hcal k1 k2 hbq
          go_wp2_with fail
          go_roundw
          case rel => exact ⟨q + 1, by omega, by omega, by go_num, HBQ.out⟩
          case measure => simp [Lib.intOf]; omega
        · have hge : (n5 : Int) ≤ (q : Int) := by omega
          have hge2 : ¬ (q : Int) < (n5 : Int) := by omega
          have HBW8 := Lib.hid (HB2.out.trans (HCQ.out.mono HB2.out.size))
          go_wp2_with fail
          refine (within_any (HS.out.below HCQ.out) (HR.out.below HBW8.out) HCQ.out.size HBW8.out.size (Nat.le_trans HSL.out.1 (by decide)) (Nat.le_trans HLS.out.1 (by decide)) (fun l hl => Nat.le_trans (HSL.out.2 l hl) (by decide)) (fun y hy => (HSET.out.mem y).1 hy)).mono ?_
          rintro e w9 ⟨rfl, hb9⟩
          have HB9 := Lib.hid (HBW8.out.trans (hb9.mono HBW8.out.size))
          have HC9 := Lib.hid (HCQ.out.trans (hb9.mono HCQ.out.size))
          clear hb9
          go_wp2_with fail
          refine (within_any (HR.out.below HB9.out) (HS.out.below HC9.out) HB9.out.size HC9.out.size (Nat.le_trans HLS.out.1 (by decide)) (Nat.le_trans HSL.out.1 (by decide)) (fun l hl => Nat.le_trans (HLS.out.2 l hl) (by decide)) (fun y hy => (HSET.out.mem y).2 hy)).mono ?_
          rintro e w10 ⟨rfl, hb10⟩
          have HB10 := Lib.hid (HB9.out.trans (hb10.mono HB9.out.size))
          clear hb10
          go_wp2_with fail
          go_ret
          exact ⟨rfl, HB10.out⟩
  · have hadb' : ∀ a, some ad = some a → 0 < n → a.block < w2.heap.size := fun a e h => Nat.lt_of_lt_of_le (hadb a e h) HB2.out.size
    have HNR := Lib.hid (fun W (hb : Below w2.heap.size w2 W) => hnr.below hadb' hb)
    have hn1 := (HNR.out _ HBW.out).from hkn hcp1
    have HNT := Lib.hid (fun W (hb : Below w2.heap.size w2 W) => (HNR.out W hb).take hkn)
    clear hnr hadb hadb' hcp2
    go_region_law (first
      | (refine step_append_nr rfl (.tmp 21) (.tmp 24) rfl (base := w2.heap.size) Tryd.underlying43 hi hz0 hzc hz1 hz3 (v := .slice (some ⟨w2.heap.size, 0, none⟩) 0 0) (by simp [Act.eval, Act.put]) hro1 (v2 := .slice (if c = k then some ad else some (ad.add k)) (n - k) (c - k)) (by simp [Act.eval, Act.put]) (l := rvs.drop k) hn1 HO1.out (by simp; omega) (by simp) ?_; intro va wa ga1 ga2 ga4; have hba : Below w2.heap.size w2 wa := HBW.out.grown ga2 HBW.out.size (fun j hj => by cases hj; exact Nat.le_refl _); have hna := HNR.out _ hba)
      | (refine step_append_nr rfl (.tmp 25) (.tmp 26) rfl (base := w2.heap.size) Tryd.underlying43 hi hz0 hzc hz1 hz3 (v := va) (by simp [Act.eval, Act.put]) ga1 (v2 := .slice (some ad) n c) (by simp [Act.eval, Act.put]) (l := rvs) hna HO2.out (by simp; omega) hba.size ?_; intro vb wb gb1 gb2 gb4; have hbb : Below w2.heap.size w2 wb := hba.grown gb2 hba.size (fun j hj => (ga1.lt j hj).1); have hnb := HNT.out _ hbb)
      | (refine step_append_nr rfl (.tmp 27) (.tmp 30) rfl (base := w2.heap.size) Tryd.underlying43 hi hz0 hzc hz1 hz3 (v := vb) (by simp [Act.eval, Act.put]) gb1 (v2 := .slice (some ad) k c) (by simp [Act.eval, Act.put]) (l := rvs.take k) hnb HO3.out (by simp; omega) hbb.size ?_; intro vc wc gc1 gc2 gc4; have hbc : Below w2.heap.size w2 wc := hbb.grown gc2 hbb.size (fun j hj => (gb1.lt j hj).1)))
    all_goals
      try generalize (if c = k then some ad else some (ad.add k)) = AX
      have hT : RowsOf w2.heap.size wc ([] ++ rvs.drop k ++ rvs ++ rvs.take k) (ls.drop k ++ ls ++ ls.take k) := by
        rw [List.nil_append]
        exact (((HRO.out.drop k).app HRO.out).app (HRO.out.take k)).below hbc
      have hmem : ∀ y, y ∈ ls.drop k ++ ls ++ ls.take k ↔ y ∈ ls := fun y => by
        simp only [List.mem_append]
        exact ⟨fun h => by
          rcases h with (h | h) | h
          · exact List.mem_of_mem_drop h
          · exact h
          · exact List.mem_of_mem_take h, fun h => .inl (.inr h)⟩
      have hTl : (ls.drop k ++ ls ++ ls.take k).length ≤ 1000000 := by
        have := HLS.out.1
        simp only [List.length_append, List.length_drop, List.length_take]
        omega
      obtain ⟨T, hT1, hT2, hT3⟩ : ∃ T, RRV wc.heap.size wc vc T ∧ (∀ y, y ∈ T ↔ y ∈ ls) ∧ T.length ≤ 1000000 := ⟨_, RRV.of_own gc1 hT hbc.size, hmem, hTl⟩
      have HT1 := Lib.hid (And.intro hT1 (And.intro hT2 hT3))
      have HBC := Lib.hid hbc
      clear hT hmem hTl ga1 ga2 ga4 gb1 gb2 gb4 gc1 gc2 gc4 hba hbb hbc hna hnb hT1 hT2 hT3 hro1 hrl
      go_wp2_with fail
      refine (set_any HT1.out.1 (Nat.le_refl _) HT1.out.2.2 (fun l hl => Nat.le_trans (HLS.out.2 l ((HT1.out.2.1 l).1 hl)) (by decide))).mono ?_
      rintro e w5 ⟨v33, rfl, S1, hs1, hset1, _, hb5⟩
      have e1 : S1 = S := hset1.one HSET.out HT1.out.2.1
      rw [e1] at hs1
      have HS1 := Lib.hid hs1
      have HC5 := Lib.hid (HBC.out.trans (hb5.mono HBC.out.size))
      clear hs1 hset1 hb5 e1
      go_wp2_with fail
      refine (sameR_any HS1.out (HS.out.below HC5.out) (Nat.le_refl _) HC5.out.size (Nat.le_trans HSL.out.1 (by decide)) (fun l hl => Nat.le_trans (HSL.out.2 l hl) (by decide))).mono ?_
      rintro e w6 ⟨rfl, hb6⟩
      have HC6 := Lib.hid (HC5.out.trans (hb6.mono HC5.out.size))
      clear hb6
      go_wp2_with fail
      refine (set_any (HS.out.below HC6.out) HC6.out.size (Nat.le_trans HSL.out.1 (by decide)) (fun l hl => Nat.le_trans (HSL.out.2 l hl) (by decide))).mono ?_
      rintro e w7 ⟨v39, rfl, S2, hs2, hset2, _, hb7⟩
      have e2 : S2 = S := hset2.one HSET.out.self (fun _ => Iff.rfl)
      rw [e2] at hs2
      have HS2 := Lib.hid hs2
      have HC7 := Lib.hid (HC6.out.trans (hb7.mono HC6.out.size))
      clear hs2 hset2 hb7 e2
      go_wp2_with fail
      refine (sameR_any HS2.out (HS.out.below HC7.out) (Nat.le_refl _) HC7.out.size (Nat.le_trans HSL.out.1 (by decide)) (fun l hl => Nat.le_trans (HSL.out.2 l hl) (by decide))).mono ?_
      rintro e w8 ⟨rfl, hb8⟩
      have HC8 := Lib.hid (HC7.out.trans (hb8.mono HC7.out.size))
      clear hb8
      have hl5 : n5 ≤ 400 := by have := HSL.out.1; have := HN5.out; omega
      go_wp2_with fail
      go_loopw [8] (fun i wr => ∃ q : Nat, 1 ≤ q ∧ q ≤ n5 + 1 ∧ i = .int .i64 q ∧ Below w8.heap.size w8 wr) (fun i _ => n5 - (Lib.intOf i).toNat)
      case atStart => exact ⟨1, Nat.le_refl _, by omega, rfl, Below.refl _ _⟩
      case round =>
        obtain ⟨q, hq1, hq2, rfl, hb⟩ := hrel
        have HB8 := Lib.hid hb
        have HCQ := Lib.hid (HC8.out.trans (hb.mono HC8.out.size))
        clear hb
        by_cases hlt : q < n5
        · obtain ⟨p, hp⟩ : ∃ p, q - 1 = p := ⟨_, rfl⟩
          have hpi : (q : Int) - 1 = (p : Int) := by omega
          have hpw : IntKind.i64.wrap (p : Int) = p := by simp [IntKind.wrap, IntKind.bits, IntKind.signed]; omega
          have hpn : p < n5 := by omega
          have hpq : p < q := by omega
          have hqS : q < S.length := by rw [HN5.out]; exact hlt
          have hpS : p < S.length := by rw [HN5.out]; exact hpn
          obtain ⟨adq, A1, c1, e1, _, hc1, hv1, _⟩ := (HS.out.below HCQ.out).at' hqS
          subst e1
          obtain ⟨adp, A2, c2, e2, _, hc2, hv2, _⟩ := (HS.out.below HCQ.out).at' hpS
          injection e2 with e2
          subst e2
          have hup : cmpR S[p] S[q] = -1 := List.pairwise_iff_getElem.1 HSET.out.up p q hpS hqS hpq
          have hly := HSL.out.2 S[q] (List.getElem_mem _)
          have hlx := HSL.out.2 S[p] (List.getElem_mem _)
          obtain ⟨y, hy⟩ : ∃ y, S[q] = y := ⟨_, rfl⟩
          obtain ⟨z, hz⟩ : ∃ z, S[p] = z := ⟨_, rfl⟩
          rw [hy] at hc1 hv1 hly hup
          rw [hz] at hc2 hv2 hlx hup
          have hcal : ∀ d os, Calls Tryd.prog 21 #[.slice A2 z.length c2, .slice A1 y.length c1] (Sort.grow (redrawn wr d) os) fun e w'' => e = .returned (.int .i64 (-1)) ∧ ∃ p : Regrown, w'' = Sort.grow (redrawn wr p.d) p.os := fun d os => Calls.regrown_of (by
            have h := rows_gr (hv2.below (below_regrown wr d os)) (hv1.below (below_regrown wr d os)) (Nat.le_trans hlx (by decide)) (Nat.le_trans hly (by decide))
            exact h.mono fun e w' h => ⟨by rw [h.1, hup], h.2.below⟩)
          obtain ⟨m1, hm1⟩ : ∃ m, y.length = m := ⟨_, rfl⟩
          obtain ⟨m2, hm2⟩ : ∃ m, z.length = m := ⟨_, rfl⟩
          rw [hm1] at hc1 hcal
          rw [hm2] at hc2 hcal
          have k1 := cell_regrown hc1
          have k2 := cell_regrown hc2
          clear hc1 hc2 hv1 hv2 hly hlx hup hm1 hm2 hp
          go_upto_region 13 with (fail)
          refine wp_region_quiet_below (by kernel_rfl) (by kernel_rfl) ?_
          repeat (first | go_big_quiet_skip | (go_big_quiet_want; go_big_quiet_op; first | go_big_quiet_on | go_big_quiet_call (exact hcal _ _)) | quiet_step (exact hcal _ _))
          refine wpQuiet_nil ?_
          intro _ hw'
          obtain ⟨⟨dq, osq⟩, hw''⟩ := hw'
          subst hw''
          have hbq := below_regrown wr dq osq
          generalize Sort.grow (redrawn wr dq) osq = WT at hbq ⊢
          have HBQ := Lib.hid (HB8.out.trans (hbq.mono HB8.out.size))
          clear hcal k1 k2 hbq
          go_wp2_with fail
          go_roundw
          case rel => exact ⟨q + 1, by omega, by omega, by go_num, HBQ.out⟩
          case measure => simp [Lib.intOf]; omega
        · have hge : (n5 : Int) ≤ (q : Int) := by omega
          have hge2 : ¬ (q : Int) < (n5 : Int) := by omega
          have HBW8 := Lib.hid (HB2.out.trans (HCQ.out.mono HB2.out.size))
          go_wp2_with fail
          refine (within_any (HS.out.below HCQ.out) (HR.out.below HBW8.out) HCQ.out.size HBW8.out.size (Nat.le_trans HSL.out.1 (by decide)) (Nat.le_trans HLS.out.1 (by decide)) (fun l hl => Nat.le_trans (HSL.out.2 l hl) (by decide)) (fun y hy => (HSET.out.mem y).1 hy)).mono ?_
          rintro e w9 ⟨rfl, hb9⟩
          have HB9 := Lib.hid (HBW8.out.trans (hb9.mono HBW8.out.size))
          have HC9 := Lib.hid (HCQ.out.trans (hb9.mono HCQ.out.size))
          clear hb9
          go_wp2_with fail
          refine (within_any (HR.out.below HB9.out) (HS.out.below HC9.out) HB9.out.size HC9.out.size (Nat.le_trans HLS.out.1 (by decide)) (Nat.le_trans HSL.out.1 (by decide)) (fun l hl => Nat.le_trans (HLS.out.2 l hl) (by decide)) (fun y hy => (HSET.out.mem y).2 hy)).mono ?_
          rintro e w10 ⟨rfl, hb10⟩
          have HB10 := Lib.hid (HB9.out.trans (hb10.mono HB9.out.size))
          clear hb10
          go_wp2_with fail
          go_ret
          exact ⟨rfl, HB10.out⟩

theorem once_any {w : World} {v : Value} {ls : List (List Vt)} (x : Int) (htab : Tb w) (h : RRV w.heap.size w v ls ∧ CapOk v) (hsz : ls.length ≤ 281474976710656 ∧ ∀ l ∈ ls, l.length ≤ 281474976710656) :
    Calls Tryd.prog 7 #[v, .int .i64 x] w fun e w' => e = .returned (.bool true) ∧ Below w.heap.size w w' := by
  by_cases ht : tot ls ≤ 400
  · exact once_small x htab h.1 h.2 ht
  · exact once_big x htab h.1 hsz.1 hsz.2 ht
end Go.Proofs.YtadjgjbkjhallaaDoor
