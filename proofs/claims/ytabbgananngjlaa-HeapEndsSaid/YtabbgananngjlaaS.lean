/- Walk of HeapOrder. -/
import Derived.Test.YtabbgananngjlaaT
import Derived.LaidEqlPtr
namespace Go.Proofs.Ytabbgananngjlaa
open Go.ChangeShapes Go.WideShapes Go.ChangeAt Go.RowKit
set_option linter.unusedVariables false

def Tr (w : World) (e : Ending) (w' : World) : Prop := e = .returned (.bool true) ∧ Below w.heap.size w w'

theorem order_long {w : World} {v : Value} {l : List It} (h : PR w v l) (turn key : Int) (hl : 600 < l.length) : Calls Try.prog 5 #[v, .int .i64 turn, .int .i64 key] w (Tr w) := by
  obtain ⟨A, c, rfl, _⟩ := h
  have hl' : (600 : Int) < (l.length : Int) := by omega
  clear hl
  go_enter Try.func5, Try.ntmps5
  go_wp2_with fail
  refine (awake_any _).mono ?_
  rintro e w1 ⟨rfl, hb1⟩
  have HB := Lib.hid hb1
  clear hb1
  go_wp2_with fail
  go_ret
  exact ⟨rfl, HB.out⟩

set_option maxRecDepth 100000 in
set_option maxHeartbeats 2000000 in
theorem order_short {w : World} {v : Value} {l : List It} (h : PR w v l) (turn key : Int) (hl : l.length ≤ 600) (k0 : Nat) (hk0 : 0 < l.length → k0 < l.length)
    (hpk : ∀ W : World, Calls Try.prog 13 #[.int .i64 turn, .int .i64 l.length] W fun e w' => e = .returned (.int .i64 (k0 : Int)) ∧ w' = W) : Calls Try.prog 5 #[v, .int .i64 turn, .int .i64 key] w (Tr w) := by
  have H := Lib.hid h
  obtain ⟨A, c, hv, _⟩ := h
  obtain ⟨n, hn⟩ : ∃ n, l.length = n := ⟨_, rfl⟩
  rw [hn] at hl hk0 hpk hv
  subst hv
  have HN := Lib.hid hn
  have HK := Lib.hid hk0
  have HP := Lib.hid hpk
  clear hn hk0 hpk
  have hl' : (n : Int) ≤ 600 := by omega
  go_enter Try.func5, Try.ntmps5
  go_wp2_with fail
  refine (awake_any _).mono ?_
  rintro e wa ⟨rfl, hba⟩
  have HBA := Lib.hid hba
  clear hba
  go_wp2_with fail
  refine (new_any (H.out.below HBA.out) (by have := HN.out; omega)).mono ?_
  rintro e w1 ⟨b1, sv1, M1, rfl, hb1, hp1, hh1, hlo1, hro1, hbe1⟩
  have HS1 := Lib.hid (HS.of_new hb1 hh1 hlo1 hro1 hbe1)
  have HP1 := Lib.hid hp1
  have HB1 := Lib.hid hbe1
  clear hb1 hp1 hh1 hlo1 hro1 hbe1
  go_wp2_with fail
  refine (new_any (l := []) ⟨none, 0, rfl, fun h => absurd h (by simp)⟩ (by simp)).mono ?_
  rintro e w2 ⟨b2, sv2, M2, rfl, hb2, hp2, hh2, hlo2, hro2, hbe2⟩
  have HS2 := Lib.hid (HS.of_new hb2 hh2 hlo2 hro2 hbe2)
  have HP2 := Lib.hid hp2
  have HB2 := Lib.hid hbe2
  clear hb2 hp2 hh2 hlo2 hro2 hbe2
  go_wp2_with fail
  refine (HP.out _).mono ?_
  rintro e w3 ⟨rfl, rfl⟩
  go_wp2_with fail
  go_loopw [10] (fun i wr => ∃ q : Nat, q ≤ n ∧ i = .int .i64 q ∧ Below w1.heap.size w1 wr ∧ ∃ sv M, HS w1.heap.size wr b2 sv M ∧ M.Perm ((rt l k0).take q)) (fun i _ => n - (intOf i).toNat)
  case atStart => exact ⟨0, Nat.zero_le _, rfl, HB2.out, sv2, M2, HS2.out, by simpa using HP2.out⟩
  case round =>
    obtain ⟨q, hq, rfl, hbr, svr, Mr, hsr, hpr⟩ := hrel
    have HBR := Lib.hid hbr
    have HSR := Lib.hid hsr
    have HPR := Lib.hid hpr
    clear hbr hsr hpr
    by_cases hlt : q < n
    · have hkn : k0 < n := HK.out (by omega)
      have hm1 : 0 ≤ ((q : Int) + (k0 : Int)) % (n : Int) := Int.emod_nonneg _ (by omega)
      have hm2 : ((q : Int) + (k0 : Int)) % (n : Int) < (n : Int) := Int.emod_lt_of_pos _ (by omega)
      have hlm : (q + k0) % n < n := Nat.mod_lt _ (by omega)
      have hra := rt_at (l := l) (k := k0) (i := q) (by rw [HN.out]; exact hkn) (by rw [HN.out]; exact hlt)
      rw [HN.out] at hra
      obtain ⟨ad, e1, hx9, hx8, x1, x2⟩ := PR.at2 (H.out.below HBA.out |>.below HB1.out |>.below HBR.out) (k := (q + k0) % n) (by rw [HN.out]; exact hlm)
      subst e1
      rw [← hra] at x1 x2
      obtain ⟨x, hx⟩ : ∃ x, g (rt l k0) q = x := ⟨_, rfl⟩
      rw [hx] at x1 x2
      have HX := Lib.hid hx
      clear hx hra hx9 hx8 hlm
      go_wp2_with fail
      have hbw : Below wr.heap.size wr (wr.alloc (.cells #[.int .i64 x.1, .int .i64 x.2] 40)) := (Below.refl _ wr).alloc (Nat.le_refl _) _
      have hs5 := HSR.out.below hbw
      have HBW := Lib.hid hbw
      have HS5 := Lib.hid hs5
      have hpr := pr_new wr [x] 1 1 rfl
      have hml : Mr.length ≤ 600 := by have := HPR.out.length_eq; simp at this; omega
      have hpa := push_any hs5.hb hs5.hh hpr (fun _ g hg => by cases hg; exact HSR.out.hb.off (Nat.le_refl _)) (by simp; omega)
      clear hbw hs5 hpr hml x1 x2
      refine hpa.mono ?_
      rintro e w6 ⟨rfl, ht⟩
      clear hpa
      obtain ⟨hb6, sv6, M6, hs6, hp6⟩ := HS5.out.turn ht
      have hB6 : Below w1.heap.size w1 w6 := (HBR.out.trans (HBW.out.mono HSR.out.sz)).trans hb6
      have hP6 : M6.Perm ((rt l k0).take (q + 1)) := by
        rw [List.take_succ_eq_append_getElem (by rw [rt_len, HN.out]; exact hlt), ← g_get, HX.out]
        exact hp6.trans (HPR.out.append_right [x])
      have HB6 := Lib.hid hB6
      have HS6 := Lib.hid hs6
      have HP6 := Lib.hid hP6
      clear ht hb6 hs6 hp6 hB6 hP6
      go_wp2_with fail
      go_roundw
      case rel => exact ⟨q + 1, by omega, by go_num, HB6.out, sv6, M6, HS6.out, HP6.out⟩
      case measure => simp [intOf] <;> omega
    · obtain rfl : q = n := by omega
      have hpl : Mr.Perm l := by
        have := HPR.out
        rw [List.take_of_length_le (by rw [rt_len, HN.out]; exact Nat.le_refl _)] at this
        exact this.trans (rt_perm l k0)
      have hS : srt Mr = srt l := srt_congr hpl
      have hml : Mr.length ≤ 1000000 := by have := hpl.length_eq; have := HN.out; omega
      have htk := taken_any HSR.out.hb HSR.out.hh hml key 601 (by omega)
      rw [hS] at htk
      have HSS := Lib.hid hS
      have HH := Lib.hid (HS1.out.hb.below HBR.out)
      clear hpl hS hml
      go_wp2_with fail
      refine htk.mono ?_
      rintro e w4 ⟨v4, sv4, M4, rfl, hpr4, hvo4, hb4, hh4, hsr4, hlo4, hk4, hvf4⟩
      have hBl4 : Below w1.heap.size wr w4 := HSR.out.keepB hk4
      have hH4 : Hb w4 b1 sv1 M1 := HS1.out.hb.below (HBR.out.trans hBl4)
      have hBa4 : Below w.heap.size w w4 := HBA.out.trans ((HB1.out.trans ((HBR.out.trans hBl4).mono HB1.out.size)).mono HBA.out.size)
      have hPo := Po.start hH4 HS1.out.hh
      have hg1 : ∀ g, sv1.ownBlock = some g → g < w1.heap.size := HS1.out.hb.ltr
      have hb1l : b1 < w1.heap.size := HS1.out.hb.ltb
      have hoff2 : Off b1 sv1 b2 := ⟨by have := HSR.out.lo; omega, fun e => by have := hg1 _ e; have := HSR.out.lo; omega⟩
      have hro4 : ∀ g, sv4.ownBlock = some g → Off b1 sv1 g := by
        intro g hg
        have h1 : w1.heap.size ≤ g := by
          rcases hlo4 g hg with k | k
          · exact HSR.out.ro g k
          · exact Nat.le_trans HSR.out.sz k
        exact ⟨by omega, fun e => by have := hg1 _ e; omega⟩
      have hvo : ∀ g, v4.ownBlock = some g → Off b1 sv1 g := by
        intro g hg
        have h1 : w1.heap.size ≤ g := Nat.le_trans HSR.out.sz (hvo4 g hg)
        exact ⟨by omega, fun e => by have := hg1 _ e; omega⟩
      have hsl : (srt l).length = q := by rw [srt_len, HN.out]
      have hsm : srt M1 = srt l := srt_congr HP1.out
      have hml1 : M1.length ≤ 600 := by have := HP1.out.length_eq; have := HN.out; omega
      have HPO := Lib.hid hPo
      have HB4 := Lib.hid hb4
      have HR4 := Lib.hid hpr4
      have HSR4 := Lib.hid hsr4
      have HO2 := Lib.hid hoff2
      have HRO := Lib.hid hro4
      have HVO := Lib.hid hvo
      have HSL := Lib.hid hsl
      have HSM := Lib.hid hsm
      have HML1 := Lib.hid hml1
      have HBA4 := Lib.hid hBa4
      clear htk hBl4 hH4 hBa4 hPo hg1 hb1l hoff2 hro4 hvo hsl hsm hml1 hpr4 hvo4 hb4 hh4 hsr4 hlo4 hk4 hvf4
      obtain ⟨A4, c4, hv4, _⟩ := HR4.out
      obtain ⟨ll, hll⟩ : ∃ ll, (tk key (601 : Int).toNat (srt l)).1.length = ll := ⟨_, rfl⟩
      rw [hll] at hv4
      subst hv4
      have HLL := Lib.hid hll
      clear hll
      go_wp2_with fail
      obtain ⟨i0, hi, hz0, hz1, hz2⟩ := info_parts info40
      go_loopw [12, 13] (fun o i wr => ∃ r : Nat, r ≤ q ∧ i = .int .i64 r ∧ ∃ sv M, Po w4 b1 sv1 M1.length ((srt l).take r) o sv M wr ∧ srt M = (srt l).drop r) (fun _ i _ => q - (intOf i).toNat)
      case atStart => exact ⟨0, Nat.zero_le _, rfl, sv1, M1, HPO.out, HSM.out⟩
      case round =>
        obtain ⟨r, hr, rfl, svr2, Mr2, hpo, hsr⟩ := hrel
        by_cases hlr : r < q
        · obtain ⟨hpos, hx0, hcut⟩ := srt_step hpo.hh hsr (by rw [HSL.out]; exact hlr)
          have hpop := pop_any hpo.hb hpo.hh (by have := hpo.ml; have := HML1.out; omega)
          unfold PopR at hpop
          rw [hx0, decide_eq_true hpos] at hpop
          obtain ⟨x, hx⟩ : ∃ x, g (srt l) r = x := ⟨_, rfl⟩
          rw [hx] at hpop
          have htl : ((srt l).take r).length = r := by rw [List.length_take, HSL.out]; omega
          have htk1 : (srt l).take (r + 1) = (srt l).take r ++ [x] := by rw [List.take_succ_eq_append_getElem (by rw [HSL.out]; exact hlr), ← g_get, hx]
          have HPO2 := Lib.hid hpo
          have HCUT := Lib.hid hcut
          have HXX := Lib.hid hx
          have HTL := Lib.hid htl
          have HTK1 := Lib.hid htk1
          clear hpo hsr hpos hx0 hcut hx htl htk1
          go_wp2_with fail
          refine hpop.mono ?_
          rintro e w5 ⟨rfl, ht⟩
          clear hpop
          obtain ⟨sv5, M5, hpo5, hp5⟩ := HPO2.out.pop ht
          have hbw5 : Below w5.heap.size w5 (w5.alloc (.cells #[.int .i64 x.1, .int .i64 x.2] 40)) := (Below.refl _ w5).alloc (Nat.le_refl _) _
          have hx5 := res_cells (heap_alloc_new w5 (.cells #[.int .i64 x.1, .int .i64 x.2] 40))
          have hpo6 := hpo5.below hbw5
          have hof5 := hpo5.hb.off (Nat.le_refl w5.heap.size)
          have hsz5 : w5.heap.size < (w5.alloc (.cells #[.int .i64 x.1, .int .i64 x.2] 40)).heap.size := by simp
          have hc5 : srt M5 = (srt l).drop (r + 1) := by rw [srt_congr hp5, HCUT.out]
          obtain ⟨z0, z1, _, _⟩ := hx5
          have HPO6 := Lib.hid hpo6
          have HC5 := Lib.hid hc5
          have HSZ5 := Lib.hid hsz5
          clear ht hpo5 hp5 hbw5 hpo6 hof5 hsz5 hc5
          obtain ⟨X, hX⟩ : ∃ X, w5.heap.size = X := ⟨_, rfl⟩
          obtain ⟨W6, hW6⟩ : ∃ W6, w5.alloc (.cells #[.int .i64 x.1, .int .i64 x.2] 40) = W6 := ⟨_, rfl⟩
          rw [hX, hW6] at HSZ5
          rw [hW6] at HPO6 z0 z1
          rw [hX] at z0 z1
          have HX9 := Lib.hid hX
          have HW9 := Lib.hid hW6
          clear hX hW6
          by_cases h0 : r = 0
          · subst h0
            go_upto_region 17 with (fail)
            rw [HW9.out, HX9.out]
            go_quiet (fail)
            have hpoT := HPO6.out.below (show Below W6.heap.size W6 (W6.drewN nq) from ⟨rfl, rfl, rfl, Nat.le_refl _, fun _ _ => rfl⟩)
            have zt0 : (W6.drewN nq).cell? ⟨X, 0, none⟩ = some (.int .i64 x.1) := z0
            have zt1 : (W6.drewN nq).cell? ⟨X, 1, none⟩ = some (.int .i64 x.2) := z1
            clear z0 z1
            have HPOT := Lib.hid hpoT
            clear hpoT
            generalize W6.drewN nq = WT at *
            have hrow := HPOT.out.row
            have hlow := HPOT.out.keep.size
            rw [HTL.out] at hrow
            go_wp2_with (at_builtin; refine wpList_append_own_at _ rfl _ _ 22 rfl w4.heap.size 40 i0 (.agg #[.int .i64 0, .int .i64 0]) 2 16 Try.underlying22 hi hz0 hz1 hz2 rfl (by decide) _ _ _ rfl (hrow.alloc _) ⟨WT.heap.size, 0, none⟩ 1 1 [.int .i64 x.1, .int .i64 x.2] rfl rfl (new_two WT x.1 x.2) (by simp [Value.oneCell']) (by unfold maxLen; omega) (by omega) (by simp; omega) ?_; intro v' w7 hown' hgrow _ hat; obtain ⟨g', cap', rfl⟩ := ownsRow_succ hown'; have hpo8 := HPOT.out.app (x := x) (by rw [HTL.out]; exact hown') hgrow hat; have HPO8 := Lib.hid hpo8; clear hpo8 hown' hgrow hat)
            rw [← HTK1.out] at HPO8
            go_roundw
            case rel => exact ⟨0 + 1, by omega, by go_num, _, _, HPO8.out, HC5.out⟩
            case measure => simp [intOf] <;> omega
          · obtain ⟨r', rfl⟩ : ∃ r', r = r' + 1 := ⟨r - 1, by omega⟩
            have hr0 : (0 : Int) < ((r' + 1 : Nat) : Int) := by omega
            go_upto_region 17 with (fail)
            rw [HW9.out, HX9.out]
            obtain ⟨gg, co, ho, o1, o2⟩ := HPO6.out.at (k := r') (by rw [HTL.out]; omega)
            rw [HTL.out] at ho
            subst ho
            have hwr : IntKind.i64.wrap (r' : Int) = (r' : Int) := wrap_small _ (by omega) (by omega)
            have hrl : (r' : Int) < (r' : Int) + 1 := by omega
            rw [g_take (by omega)] at o1 o2
            obtain ⟨y, hy⟩ : ∃ y, g (srt l) r' = y := ⟨_, rfl⟩
            rw [hy] at o1 o2
            have hle : le y x = true := by rw [← hy, ← HXX.out]; exact srt_le (srt_srt l) (by omega) (by rw [HSL.out]; omega)
            have HLE := Lib.hid hle
            clear hy hle
            go_still_tail 12, (by kernel_rfl)
            change wpList _ _ _ _ _ W6.drew
            have hpoD := HPO6.out.below (Below.refl _ W6).drew
            have zd : W6.drew.heap[X]? = W6.heap[X]? := rfl
            have hXl : X < W6.drew.heap.size := HSZ5.out
            have HPOD := Lib.hid hpoD
            have HXL := Lib.hid hXl
            have zt0 : W6.drew.cell? ⟨X, 0, none⟩ = some (.int .i64 x.1) := z0
            have zt1 : W6.drew.cell? ⟨X, 1, none⟩ = some (.int .i64 x.2) := z1
            clear z0 z1 hpoD zd hXl o1 o2 hwr hrl
            generalize W6.drew = WD at *
            go_wp2_with fail
            refine (lawAhead_any y x _).mono ?_
            rintro e WT ⟨rfl, hbT⟩
            rw [HLE.out]
            have hpoT := HPOD.out.below hbT
            have HPOT := Lib.hid hpoT
            have zu0 := (hbT.cell (p := ⟨X, 0, none⟩) HXL.out).trans zt0
            have zu1 := (hbT.cell (p := ⟨X, 1, none⟩) HXL.out).trans zt1
            clear zt0 zt1 hpoT hbT
            have hrow := HPOT.out.row
            have hlow := HPOT.out.keep.size
            rw [HTL.out] at hrow
            go_wp2_with (at_builtin; refine wpList_append_own_at _ rfl _ _ 22 rfl w4.heap.size 40 i0 (.agg #[.int .i64 0, .int .i64 0]) 2 16 Try.underlying22 hi hz0 hz1 hz2 rfl (by decide) _ _ _ rfl (hrow.alloc _) ⟨WT.heap.size, 0, none⟩ 1 1 [.int .i64 x.1, .int .i64 x.2] rfl rfl (new_two WT x.1 x.2) (by simp [Value.oneCell']) (by unfold maxLen; omega) (by omega) (by simp; omega) ?_; intro v' w7 hown' hgrow _ hat; obtain ⟨g', cap', rfl⟩ := ownsRow_succ hown'; have hpo8 := HPOT.out.app (x := x) (by rw [HTL.out]; exact hown') hgrow hat; have HPO8 := Lib.hid hpo8; clear hpo8 hown' hgrow hat)
            rw [← HTK1.out] at HPO8
            go_roundw
            case rel => exact ⟨(r' + 1) + 1, by omega, by go_num, _, _, HPO8.out, HC5.out⟩
            case measure => simp [intOf] <;> omega
        · obtain rfl : q = r := by omega
          have hml0 : Mr2.length = 0 := by rw [← srt_len, hsr, List.length_drop, HSL.out]; omega
          have htake : (srt l).take q = srt l := List.take_of_length_le (by rw [HSL.out]; exact Nat.le_refl _)
          rw [htake] at hpo
          have hpop := pop_any hpo.hb hpo.hh (by omega)
          unfold PopR at hpop
          rw [decide_eq_false (by omega)] at hpop
          obtain ⟨x, hx⟩ : ∃ x, g Mr2 0 = x := ⟨_, rfl⟩
          rw [hx] at hpop
          have HPO2 := Lib.hid hpo
          clear hx hml0 htake hpo hsr
          go_wp2_with fail
          refine hpop.mono ?_
          rintro e w5 ⟨rfl, ht⟩
          clear hpop
          obtain ⟨sv5, M5, hpo5, _⟩ := HPO2.out.pop ht
          have hbw5 : Below w5.heap.size w5 (w5.alloc (.cells #[.int .i64 x.1, .int .i64 x.2] 40)) := (Below.refl _ w5).alloc (Nat.le_refl _) _
          have hpo6 := hpo5.below hbw5
          have hb6 : Hb (w5.alloc (.cells #[.int .i64 x.1, .int .i64 x.2] 40)) b2 sv4 M4 := HB4.out.keep hpo6.keep fun k _ hk => by
            rcases hk with rfl | hk
            · exact HO2.out
            · exact HRO.out k hk
          have hr6 := HR4.out.keep hpo6.keep fun _ g hg _ => HVO.out g hg
          have hfin : Below w.heap.size w (w5.alloc (.cells #[.int .i64 x.1, .int .i64 x.2] 40)) :=
            HBA4.out.trans (hpo6.keep.below HBA4.out.size fun k hk => ⟨by have := HS1.out.lo; have := HBA.out.size; omega, fun e => by have := HS1.out.ro k e; have := HBA.out.size; omega⟩)
          have HPO6 := Lib.hid hpo6
          have HB6 := Lib.hid hb6
          have HR6 := Lib.hid hr6
          have HFIN := Lib.hid hfin
          clear ht hpo5 hbw5 hpo6 hb6 hr6 hfin
          obtain ⟨Ao, co, ho, _⟩ := row_form HPO6.out.row
          rw [HSL.out] at ho
          subst ho
          obtain ⟨W6, hW6⟩ : ∃ W6, w5.alloc (.cells #[.int .i64 x.1, .int .i64 x.2] 40) = W6 := ⟨_, rfl⟩
          rw [hW6] at HPO6 HB6 HR6 HFIN
          have HW6 := Lib.hid hW6
          clear hW6
          go_wp2_with fail
          rw [HW6.out]
          go_loopw [18] (fun i wr => ∃ r : Nat, r ≤ q ∧ i = .int .i64 r ∧ Below W6.heap.size W6 wr) (fun i _ => q - (intOf i).toNat)
          case atStart => exact ⟨0, Nat.zero_le _, rfl, Below.refl _ _⟩
          case round =>
            obtain ⟨r, hr, rfl, hbz⟩ := hrel
            have HBZ := Lib.hid hbz
            clear hbz
            by_cases hlr : r < q
            · obtain ⟨gg, co2, ho, o1, o2⟩ := (HPO6.out.below HBZ.out).at (k := r) (by rw [HSL.out]; exact hlr)
              rw [HSL.out] at ho
              injection ho with ho1 ho2 ho3
              subst ho1
              obtain ⟨t1, t2⟩ := tk_at (key := key) (m := (601 : Int).toNat) (srt_srt l) (by rw [HSL.out]; show q ≤ 601; omega) (i := r) (by rw [HSL.out]; exact hlr)
              rw [HLL.out] at t1 t2
              obtain ⟨y, hy⟩ : ∃ y, g (srt l) r = y := ⟨_, rfl⟩
              rw [hy] at o1 o2 t1 t2
              clear hy
              by_cases hrl : r < ll
              · have t3 := t2 hrl
                obtain ⟨ad, e1, hx9, hx8, l1, l2⟩ := PR.at2 (HR6.out.below HBZ.out) (k := r) (by rw [HLL.out]; exact hrl)
                subst e1
                rw [t3] at l1 l2
                rw [decide_eq_true hrl] at t1
                have hky : y.1 ≤ key := of_decide_eq_true t1
                have hrl' : (r : Int) < (ll : Int) := by omega
                have E1 := fun W => ne40 W y.1 y.2 y.1 y.2
                simp only [decide_true, Bool.not_true] at E1
                clear t1 t2 t3 hx9 hx8
                go_upto_region 24 with (fail)
                go_quiet (fail)
                have hbq : Below W6.heap.size W6 (wr.drewN nq) := HBZ.out.trans ⟨rfl, rfl, rfl, Nat.le_refl _, fun _ _ => rfl⟩
                have HBQ := Lib.hid hbq
                clear hbq o1 o2 l1 l2
                generalize wr.drewN nq = WT at *
                go_wp2_with fail
                go_roundw
                case rel => exact ⟨r + 1, by omega, by go_num, HBQ.out⟩
                case measure => simp [intOf] <;> omega
              · rw [decide_eq_false hrl] at t1
                have hky : ¬ y.1 ≤ key := of_decide_eq_false t1
                have hky' : key < y.1 := by omega
                have hrl' : ¬ (r : Int) < (ll : Int) := by omega
                have hd1 : decide (y.1 ≤ key) = false := t1
                have hd2 : decide ((r : Int) < (ll : Int)) = false := decide_eq_false hrl'
                clear t1 t2
                go_upto_region 24 with (fail)
                go_quiet (fail)
                have hbq : Below W6.heap.size W6 (wr.drewN nq) := HBZ.out.trans ⟨rfl, rfl, rfl, Nat.le_refl _, fun _ _ => rfl⟩
                have HBQ := Lib.hid hbq
                clear hbq o1 o2
                generalize wr.drewN nq = WT at *
                go_wp2_with fail
                go_roundw
                case rel => exact ⟨r + 1, by omega, by go_num, HBQ.out⟩
                case measure => simp [intOf] <;> omega
            · obtain rfl : q = r := by omega
              have hlen := len_any (HB6.out.below HBZ.out)
              have hdiff : (M4.length : Int) = (q : Int) - (ll : Int) := by
                have h1 := tk_lens key (601 : Int).toNat (srt l)
                have h2 : M4.length = (tk key (601 : Int).toNat (srt l)).2.length := by rw [← HSR4.out, srt_len]
                rw [HLL.out, HSL.out] at h1
                omega
              have hllq : (ll : Int) ≤ (q : Int) := by omega
              have hwr9 : IntKind.i64.wrap ((q : Int) - (ll : Int)) = (q : Int) - (ll : Int) := wrap_small _ (by omega) (by omega)
              rw [hdiff] at hlen
              have hmny := many_any (PR.of_own (HPO6.out.below HBZ.out).row) ((H.out.below (HFIN.out)).below HBZ.out) (srt_perm l) (by rw [HSL.out]; omega)
              have HLEN := Lib.hid hlen
              have HMNY := Lib.hid hmny
              clear hlen hmny hdiff
              go_wp2_with fail
              refine HLEN.out.mono ?_
              rintro e w9 ⟨rfl, rfl⟩
              go_wp2_with fail
              refine HMNY.out.mono ?_
              rintro e w9 ⟨rfl, hb9⟩
              have HB9 := Lib.hid hb9
              clear hb9
              go_wp2_with fail
              go_ret
              exact ⟨rfl, HFIN.out.trans ((HBZ.out.trans (HB9.out.mono HBZ.out.size)).mono HFIN.out.size)⟩

theorem order_any {w : World} {v : Value} {l : List It} (h : PR w v l) (turn key : Int) : Calls Try.prog 5 #[v, .int .i64 turn, .int .i64 key] w (Tr w) := by
  by_cases hl : l.length ≤ 600
  · by_cases h0 : l.length = 0
    · exact order_short h turn key hl 0 (fun h => h) (fun W => by rw [h0]; exact pick_zero turn W)
    · have h1 := Int.emod_nonneg turn (show (l.length : Int) ≠ 0 by omega)
      have h2 := Int.emod_lt_of_pos turn (show (0 : Int) < (l.length : Int) by omega)
      refine order_short h turn key hl (turn % (l.length : Int)).toNat (fun _ => by omega) fun W => ?_
      rw [show (((turn % (l.length : Int)).toNat : Nat) : Int) = turn % (l.length : Int) by omega]
      exact pick_any turn l.length W (by omega) (by omega)
  · exact order_long h turn key (by omega)
end Go.Proofs.Ytabbgananngjlaa
