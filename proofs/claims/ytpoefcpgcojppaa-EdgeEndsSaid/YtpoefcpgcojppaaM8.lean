/- Texts UL, TA, RA, RB, one behind the other. -/
import Derived.Test.YtpoefcpgcojppaaM0
import Derived.Test.YtpoefcpgcojppaaM1
import Derived.Test.YtpoefcpgcojppaaM2
import Derived.Test.YtpoefcpgcojppaaM3
import Derived.Test.YtpoefcpgcojppaaM4
import Derived.Test.YtpoefcpgcojppaaM5
import Derived.Test.YtpoefcpgcojppaaM6
import Derived.Test.YtpoefcpgcojppaaM7
import Derived.Deep.RegionLaw
import Derived.Deep.CutBlock
import Derived.Deep.CutRange
import Derived.Lib.QuietBelow
import Derived.Laws.MakeOwn
import Derived.Lib.SmallJoins
set_option linter.unusedSimpArgs false
namespace Go.Proofs.Ytpoefcpgcojppaa
open Go.ChangeShapes Go.WideShapes Go.ChangeAt Go.RowKit
set_option linter.unusedVariables false

/-- one more, put in where it belongs -/
theorem StaE.put {L S : List Ed} {x : Ed} {k : Nat} (h : StaE L S) (hk : k ≤ S.length) (h1 : ∀ j (hj : j < S.length), k ≤ j → cmpE x S[j] = -1) (h2 : ∀ j (hj : j < S.length), j < k → 0 ≤ cmpE x S[j]) : StaE (L ++ [x]) (S.take k ++ (x :: S.drop k)) := by
  have hd : ∀ y ∈ S.drop k, cmpE x y = -1 := fun y hy => by
    obtain ⟨j, hj, rfl⟩ := List.mem_iff_getElem.1 hy
    rw [List.getElem_drop]
    exact h1 _ (by rw [List.length_drop] at hj; omega) (by omega)
  have ht : ∀ y ∈ S.take k, cmpE y x ≤ 0 := fun y hy => by
    obtain ⟨j, hj, rfl⟩ := List.mem_iff_getElem.1 hy
    rw [List.length_take] at hj
    rw [List.getElem_take]
    have := h2 j (by omega) (by omega)
    have := cm_edge.neg x (S[j]'(by omega))
    omega
  refine ⟨?_, fun e => ?_⟩
  · rw [List.pairwise_append]
    refine ⟨h.srt.take, List.pairwise_cons.2 ⟨fun y hy => by have := hd y hy; omega, h.srt.drop⟩, fun a ha b hb => ?_⟩
    rcases List.mem_cons.1 hb with rfl | hb
    · exact ht a ha
    · have h3 := hd b hb
      exact cm_edge.trans a x b (ht a ha) (by omega)
  · have e1 : lk cmpE e (x :: S.drop k) = lk cmpE e (S.drop k ++ [x]) :=
      lk_turn cm_edge e [x] (S.drop k) fun a ha b hb => by
        rw [List.mem_singleton.1 ha, hd b hb]
        omega
    rw [lk_app, e1, lk_app, ← List.append_assoc, ← lk_app, List.take_append_drop, h.eqv, ← lk_app]

theorem er_cells {w : World} {A : Option Addr} {n c : Nat} {l : List Ev} (h : ER w (.slice A n c) l) : n = l.length ∧ (0 < n → ∃ ad, A = some ad ∧ ad.block < w.heap.size ∧ ∀ j u, (flatX l)[j]? = some u → w.cell? (ad.add j) = some u) := by
  obtain ⟨A', c', e, hr⟩ := h.row
  injection e with e1 e2 e3
  subst e1 e2
  exact ⟨rfl, hr⟩
theorem flatX_take (l : List Ev) (k : Nat) : flatX l = flatX (l.take k) ++ flatX (l.drop k) := by rw [← flatX_app, List.take_append_drop]
theorem er_take {w : World} {A : Option Addr} {n c k : Nat} {l : List Ev} (h : ER w (.slice A n c) l) (hk : k ≤ n) : ER w (.slice A k c) (l.take k) := by
  obtain ⟨hn, hr⟩ := er_cells h
  have hl : (l.take k).length = k := by rw [List.length_take]; omega
  refine ⟨⟨A, c, by rw [hl], fun h0 => ?_⟩, fun p hp => h.each p (List.mem_of_mem_take hp)⟩
  obtain ⟨ad, e, hb, hc⟩ := hr (by omega)
  refine ⟨ad, e, hb, fun j u hj => hc j u ?_⟩
  rw [flatX_take l k, List.getElem?_append_left (List.getElem?_eq_some_iff.1 hj).1]
  exact hj
theorem er_from {w : World} {ad : Addr} {n c k : Nat} {l : List Ev} (h : ER w (.slice (some ad) n c) l) (hk : k ≤ n) (hc : n ≤ c) : ER w (.slice (if c = k then some ad else some (ad.add (k * 5))) (n - k) (c - k)) (l.drop k) := by
  obtain ⟨hn, hr⟩ := er_cells h
  have hl : (l.drop k).length = n - k := by rw [List.length_drop]; omega
  refine ⟨⟨_, _, by rw [hl], fun h0 => ?_⟩, fun p hp => h.each p (List.mem_of_mem_drop hp)⟩
  obtain ⟨ad', e, hb, hcl⟩ := hr (by omega)
  injection e with e
  subst e
  rw [if_neg (by omega)]
  refine ⟨_, rfl, by rw [block_add]; exact hb, fun j u hj => ?_⟩
  rw [add_of_add]
  refine hcl _ u ?_
  have ht : (flatX (l.take k)).length = k * 5 := by rw [flatX_len, List.length_take]; congr 1; omega
  rw [flatX_take l k, List.getElem?_append_right (by rw [ht]; omega), ht, show k * 5 + j - k * 5 = j by omega]
  exact hj

theorem own_facts {w : World} {base sz n c : Nat} {t : TypeId} {A : Option Addr} {xs : List Value} (h : w.ownsRow base t sz (.slice A n c) n xs) : n ≤ c ∧ c ≤ maxLen ∧ (A = none → c = 0) := by
  rcases h.2 with ⟨e, h0⟩ | ⟨g, cap, cur, e, _, _, h1, h2, _⟩
  · injection e with e1 e2 e3
    subst e3
    exact ⟨by omega, Nat.zero_le _, fun _ => rfl⟩
  · injection e with e1 e2 e3
    subst e1 e3
    exact ⟨h1, h2, fun h => by cases h⟩
/-- the row behind the three appends -/
theorem er_put {w0 w9 w10 w11 : World} {v10 : Value} {A9 A11 : Option Addr} {c9 c11 n9 n11 b10 : Nat} {R D : List Ev} {k : Nat} {x : Ev} (hR : ∀ p ∈ R, PR w0 p.2 p.1.props) (hx : PR w0 x.2 x.1.props) (h : Below w0.heap.size w0 w11) (hown : w11.ownsRow b10 24 5 (.slice A11 n11 c11) n11 (flatX (R.take k) ++ flatX (x :: R.drop k))) : ER w11 (.slice A11 n11 c11) (R.take k ++ (x :: R.drop k)) := by
  refine ER.of_own (by rw [flatX_app]; exact hown) (fun p hp => ?_)
  rcases List.mem_append.1 hp with hp | hp
  · exact (hR p (List.mem_of_mem_take hp)).below h
  · rcases List.mem_cons.1 hp with rfl | hp
    · exact hx.below h
    · exact (hR p (List.mem_of_mem_drop hp)).below h

def RSortR (l : List Ev) (w : World) (e : Ending) (w' : World) : Prop :=
  ∃ v R, e = .returned v ∧ R.length = l.length ∧ StaE (l.map (·.1)) (R.map (·.1)) ∧ ER w' v R ∧ Below w.heap.size w w'

set_option maxHeartbeats 4000000 in
set_option maxRecDepth 100000 in
theorem rSort_any {w : World} {v : Value} {l : List Ev} (h : ER w v l) (hl : l.length ≤ 100000) (hp : ∀ p ∈ l, p.1.props.length ≤ 1000000) : Calls Try.prog 32 #[v] w (RSortR l w) := by
  unfold RSortR
  obtain ⟨i5, hi5, hz5, hs5, hb5⟩ := info_parts53
  obtain ⟨i9, hi9, hz9, hs9, hb9⟩ := info_parts24
  have H := Lib.hid h
  have HP := Lib.hid hp
  obtain ⟨A0, c0, rfl⟩ := h.form
  obtain ⟨n, hn⟩ : ∃ n, l.length = n := ⟨_, rfl⟩
  have HN := Lib.hid hn
  rw [hn] at H hl ⊢
  obtain ⟨N0, hN0⟩ : ∃ N, w.heap.size = N := ⟨_, rfl⟩
  have HN0 := Lib.hid hN0
  rw [hN0] at ⊢
  clear h hp hn hN0
  go_enter Try.func32, Try.ntmps32
  go_wp2_with fail
  go_loopg [3, 4] n (fun g1 vo vi wr => ∃ (i : Nat) (A : Option Addr) (c : Nat) (R : List Ev), vo = .slice A i c ∧ vi = .int .i64 i ∧ i ≤ n ∧ n ≤ g1 + i ∧ i ≤ c ∧ c ≤ maxLen ∧ (A = none → c = 0) ∧ Hid (R.length = i ∧ StaE ((l.take i).map (·.1)) (R.map (·.1)) ∧ ER wr (.slice A i c) R ∧ Below N0 w wr))
  case atStart => exact ⟨0, none, 0, [], rfl, rfl, Nat.zero_le _, by omega, Nat.le_refl _, Nat.zero_le _, fun _ => rfl, rfl, ⟨List.Pairwise.nil, fun _ => rfl⟩, ER.of_own (World.ownsRow_nil w 0 24 5) (by simp), by rw [← HN0.out]; exact Below.refl _ _⟩
  case round =>
    obtain ⟨i, A, c, R, rfl, rfl, hi, hg1, hic, hcm, hAc, HI⟩ := hrel
    have HAC := Lib.hid hAc
    have HCM := Lib.hid hcm
    unfold maxLen at hcm
    clear hAc
    by_cases hlt : i < n
    · have e1 : i < l.length := by have := HN.out; omega
      have hER := H.out.below (show Below w.heap.size w wr by rw [HN0.out]; exact HI.out.2.2.2)
      have hpr := hER.each _ (List.getElem_mem e1)
      have hpl := HP.out _ (List.getElem_mem e1)
      obtain ⟨x, hx⟩ : ∃ x, l[i]'e1 = x := ⟨_, rfl⟩
      rw [hx] at hpr hpl
      have HTK : Hid ((l.take (i + 1)).map (·.1) = (l.take i).map (·.1) ++ [x.1]) := by
        show _ = _
        rw [List.take_succ_eq_append_getElem e1, hx, List.map_append]
        rfl
      have HAT : Hid (∀ W, Below wr.heap.size wr W → ∃ ad, A0 = some ad ∧ ad.block < W.heap.size ∧ W.cell? (ad.add (i * 5)) = some (.string x.1.src) ∧ W.cell? ⟨(ad.add (i * 5)).block, (ad.add (i * 5)).off + 1, none⟩ = some (.string x.1.dst) ∧ W.cell? ⟨(ad.add (i * 5)).block, (ad.add (i * 5)).off + 2, none⟩ = some (.string x.1.lab) ∧ W.cell? ⟨(ad.add (i * 5)).block, (ad.add (i * 5)).off + 3, none⟩ = some (.int .i64 x.1.time) ∧ W.cell? ⟨(ad.add (i * 5)).block, (ad.add (i * 5)).off + 4, none⟩ = some x.2) := fun W hW => by
        have h := (hER.below hW).at4 e1
        rw [hx] at h
        exact h
      obtain ⟨x, pv⟩ := x
      simp only at hpr hpl HAT HTK
      have HPR := Lib.hid hpr
      have HPL := Lib.hid hpl
      clear hER hpr hpl hx
      obtain ⟨W1, hW1⟩ : ∃ W, W = wr := ⟨_, rfl⟩
      subst hW1
      go_upto_block 2 with (fail)
      go_cut [5] from 8 to 53 (fun vk wc => ∃ k : Nat, vk = .int .i64 k ∧ k ≤ i ∧ Hid ((∀ j (hj : j < R.length), k ≤ j → cmpE x R[j].1 = -1) ∧ (∀ j (hj : j < R.length), j < k → 0 ≤ cmpE x R[j].1) ∧ Below W1.heap.size W1 wc))
      case first =>
        go_wp2_with fail
        go_loopg [5] i (fun g2 vk wr2 => ∃ k : Nat, vk = .int .i64 k ∧ k ≤ i ∧ k ≤ g2 ∧ Hid ((∀ j (hj : j < R.length), k ≤ j → cmpE x R[j].1 = -1) ∧ Below W1.heap.size W1 wr2))
        case atStart => exact ⟨i, rfl, Nat.le_refl _, Nat.le_refl _, fun j hj hij => by have := HI.out.1; omega, Below.refl _ _⟩
        case round =>
          obtain ⟨k, rfl, hki, hg2, HK⟩ := hrel
          by_cases hk0 : 0 < k
          · obtain ⟨kp, hkp⟩ : ∃ kp, k - 1 = kp := ⟨_, rfl⟩
            have hkR : kp < R.length := by have := HI.out.1; omega
            obtain ⟨ad, hA0, _, q0, q1, q2, q3, q4⟩ := HAT.out _ HK.out.2
            subst hA0
            have hR2 : ER wr (.slice A i c) R := HI.out.2.2.1.below HK.out.2
            obtain ⟨ad2, hA, _, r0, r1, r2, r3, r4⟩ := hR2.at4 hkR
            subst hA
            obtain ⟨y, hy⟩ : ∃ y, R[kp]'hkR = y := ⟨_, rfl⟩
            rw [hy] at r0 r1 r2 r3 r4
            have HY := Lib.hid hy
            obtain ⟨y, pw⟩ := y
            simp only at r0 r1 r2 r3 r4
            have HKP := Lib.hid hkp
            have d1 : decide ((0 : Int) < (k : Int)) = true := decide_eq_true (by omega)
            have d2 : decide (0 < k) = true := decide_eq_true hk0
            have d3 : (k : Int) - 1 = (kp : Int) := by omega
            have d4 : IntKind.i64.wrap (kp : Int) = (kp : Int) := by rw [IntKind.wrap_i64]; omega
            have d5 : (kp : Int) < (i : Int) := by omega
            have d6 : (i : Int) < (n : Int) := by omega
            obtain ⟨bb, hbb⟩ : ∃ z, decide (cmpK x.key y.key = -1) = z := ⟨_, rfl⟩
            have HBB := Lib.hid hbb
            have cA := fun dd os => Calls.regrown_of (by have h := (ahead_gr x.key y.key pv pw (Sort.grow (redrawn wr dd) os)).mono (fun e w' (h : e = .returned (.bool (decide (cmpK x.key y.key = -1))) ∧ Gr (Sort.grow (redrawn wr dd) os) w') => (⟨h.1, h.2.below⟩ : _ ∧ Below _ _ w')); rw [hbb] at h; unfold eV Ed.key at h; exact h)
            have q0 := cell_regrown q0; have q1 := cell_regrown q1; have q2 := cell_regrown q2; have q3 := cell_regrown q3; have q4 := cell_regrown q4
            have r0 := cell_regrown r0; have r1 := cell_regrown r1; have r2 := cell_regrown r2; have r3 := cell_regrown r3; have r4 := cell_regrown r4
            simp only at cA
            clear hkp hR2 hy hbb
            go_upto_region 6 with (fail)
            refine wp_region_quiet_below (by kernel_rfl) (by kernel_rfl) ?_
            repeat (first | go_big_quiet_skip | (go_big_quiet_want; go_big_quiet_op; first | go_big_quiet_on | go_big_quiet_call (exact cA _ _)) | quiet_step (exact cA _ _))
            refine wpQuiet_nil ?_
            intro _ hw'
            obtain ⟨⟨dq, osq⟩, hw''⟩ := hw'
            subst hw''
            have HB2 := Lib.hid (HK.out.2.trans ((below_regrown wr dq osq).mono HK.out.2.size))
            clear cA q0 q1 q2 q3 q4 r0 r1 r2 r3 r4 d1 d2
            generalize Sort.grow (redrawn wr dq) osq = wA at HB2 ⊢
            cases bb with
            | true =>
              go_wp2_with fail
              go_roundg kp
              case measure => have := HKP.out; omega
              case rel =>
                refine ⟨kp, rfl, by omega, Nat.le_refl _, fun j hj hij => ?_, HB2.out⟩
                by_cases e : j = kp
                · subst e
                  rw [HY.out]
                  exact of_decide_eq_true HBB.out
                · exact HK.out.1 j hj (by have := HKP.out; omega)
            | false =>
              go_wp2_with fail
              go_meet
              case rel =>
                refine ⟨k, rfl, hki, HK.out.1, fun j hj hij => ?_, HB2.out⟩
                have h0 := of_decide_eq_false HBB.out
                have hr := three_key.rng x.key y.key
                have hkp := HKP.out
                have h1 : 0 ≤ cmpE x y := by show 0 ≤ cmpK x.key y.key; omega
                have hk2 := hkR
                have hyk : (R[kp]'hk2).1 = y := by rw [HY.out]
                by_cases e : j = kp
                · subst e
                  rw [hyk]
                  exact h1
                · have hs := List.pairwise_iff_getElem.1 HI.out.2.1.srt j kp (by simpa using hj) (by simpa using hk2) (by omega)
                  simp only [List.getElem_map] at hs
                  rw [hyk] at hs
                  have n1 := cm_edge.neg x y
                  have n2 := cm_edge.neg x R[j].1
                  have := cm_edge.trans _ _ _ hs (show cmpE y x ≤ 0 by omega)
                  omega
          · have d1 : decide ((0 : Int) < (k : Int)) = false := decide_eq_false (by omega)
            have d2 : decide (0 < k) = false := decide_eq_false hk0
            go_upto_region 6 with (fail)
            refine wp_region_quiet_below (by kernel_rfl) (by kernel_rfl) ?_
            repeat (first | go_big_quiet_skip | (go_big_quiet_want; go_big_quiet_op; first | go_big_quiet_on | fail) | quiet_step (fail))
            refine wpQuiet_nil ?_
            intro _ hw'
            obtain ⟨⟨dq, osq⟩, hw''⟩ := hw'
            subst hw''
            have HB2 := Lib.hid (HK.out.2.trans ((below_regrown wr dq osq).mono HK.out.2.size))
            clear d1 d2
            generalize Sort.grow (redrawn wr dq) osq = wA at HB2 ⊢
            go_wp2_with fail
            go_meet
            case rel => exact ⟨k, rfl, hki, HK.out.1, fun j hj hij => absurd hij (by omega), HB2.out⟩
      case rest =>
        obtain ⟨k, rfl, hki, HK⟩ := hcut
        obtain ⟨ad, hA0, _, q0, q1, q2, q3, q4⟩ := HAT.out _ HK.out.2.2
        subst hA0
        obtain ⟨s, d, lb, t, ps⟩ := x
        simp only at q0 q1 q2 q3 q4 HPR HPL
        obtain ⟨np, hnp⟩ : ∃ m, ps.length = m := ⟨_, rfl⟩
        have HNP := Lib.hid hnp
        obtain ⟨Ap, cp, hpv⟩ := HPR.out.form
        rw [hnp] at hpv HPL
        subst hpv
        clear hnp
        have d6 : (i : Int) < (n : Int) := by omega
        go_upto_region 9 with (fail)
        have hE := heap_alloc_new wc (.cells #[.string s, .string d, .string lb, .int .i64 t, .slice Ap np cp] 24)
        have HD := Lib.hid (show Below W1.heap.size W1 (wc.alloc (.cells #[.string s, .string d, .string lb, .int .i64 t, .slice Ap np cp] 24)) from HK.out.2.2.alloc HK.out.2.2.size _)
        have HE := Lib.hid hE
        have hEW := Lib.hid HK.out.2.2.size
        have HPW := Lib.hid ((HPR.out.below HK.out.2.2).below ((Below.refl _ wc).alloc (Nat.le_refl _) (.cells #[.string s, .string d, .string lb, .int .i64 t, .slice Ap np cp] 24)))
        clear q0 q1 q2 q3 q4 hE
        generalize wc.alloc (.cells #[.string s, .string d, .string lb, .int .i64 t, .slice Ap np cp] 24) = wd at HD HE HPW ⊢
        generalize wc.heap.size = E at HE hEW ⊢
        have hb0 : Below wd.heap.size wd (wd.alloc (.cells #[] 53)) := (Below.refl _ wd).alloc (Nat.le_refl _) _
        have HB0 := Lib.hid hb0
        have h3 := heap_keep hb0 HE.out
        have z4 := cell_of_row _ _ 4 _ 24 (0, 0) h3
        have hro := World.ownsRow_lit (base := wd.heap.size) (size := 4) (e := 53) wd #[] 0 (Nat.le_refl _) (by unfold maxLen; omega) rfl
        have HRO := Lib.hid hro
        clear h3 hb0 hro
        go_upto_region 10 with (at_builtin; refine wpList_append_pr rfl _ _ rfl (base := wd.heap.size) Try.underlying22 hi5 hz5 hs5 hb5 (v := .slice (some ⟨wd.heap.size, 0, none⟩) 0 0) rfl HRO.out (v2 := .slice Ap np cp) rfl (HPW.out.below HB0.out) (by first | omega | (have := HPL.out; have := HNP.out; omega)) (by simp) ?_; intro v6 w6 hown6 hgrow6 _; obtain ⟨A6, c6, rfl⟩ := row_form4 hown6; have HO6 := Lib.hid hown6; have HB6 := Lib.hid (show Below wd.heap.size wd w6 from HB0.out.grown hgrow6 HB0.out.size (fun j e => by cases e; exact Nat.le_refl _)); have h3 := heap_keep HB6.out HE.out; have x4 := cell_of_row _ _ 4 _ 24 (0, 0) h3; have y4 := Go.Joins.unfrozen_of_block h3 4; clear hown6 hgrow6 z4)
        have hE7 : (w6.setCell ⟨E, 4, none⟩ (.slice A6 ps.length c6)).heap[E]? = some (.cells #[.string s, .string d, .string lb, .int .i64 t, .slice A6 ps.length c6] 24 (0, 0)) := Go.Joins.block_setCell (heap_keep HB6.out HE.out) _
        have HE7 := Lib.hid hE7
        have hlt : E < wd.heap.size := (Array.getElem?_eq_some_iff.1 HE.out).1
        have HO7 := Lib.hid (ownsRow_setCell_below HO6.out (a := ⟨E, 4, none⟩) hlt (.slice A6 ps.length c6))
        have hD7 : Below W1.heap.size W1 (w6.setCell ⟨E, 4, none⟩ (.slice A6 ps.length c6)) := (HD.out.trans (HB6.out.mono HD.out.size)).setCell (p := ⟨E, 4, none⟩) hEW.out _
        have HD7 := Lib.hid hD7
        clear hE7 hlt hD7 h3 x4 y4 HRO
        generalize w6.setCell ⟨E, 4, none⟩ (.slice A6 ps.length c6) = W7 at HE7 HO7 HD7 ⊢
        obtain ⟨ph, hph⟩ : ∃ m, ps.length = m := ⟨_, rfl⟩
        have HPH := Lib.hid hph
        have HPP := Lib.hid (show PR W7 (.slice A6 ps.length c6) ps from PR.of_own (n := ps.length) (by simpa using HO7.out))
        rw [hph] at HE7 HPP ⊢
        clear hph
        have hER7 := HI.out.2.2.1.below HD7.out
        have HR7 := Lib.hid hER7
        have hRl : R.length = i := HI.out.1
        have hbw : Below W7.heap.size W7 (W7.alloc (.cells #[.string s, .string d, .string lb, .int .i64 t, .slice A6 ph c6] 24)).drew := ((Below.refl _ W7).alloc (Nat.le_refl _) _).drew
        have HBW := Lib.hid hbw
        have hro : (W7.alloc (.cells #[.string s, .string d, .string lb, .int .i64 t, .slice A6 ph c6] 24)).drew.ownsRow W7.heap.size 24 5 (.slice (some ⟨W7.heap.size, 0, none⟩) 1 1) 1 [.string s, .string d, .string lb, .int .i64 t, .slice A6 ph c6] := (World.ownsRow_lit W7 #[.string s, .string d, .string lb, .int .i64 t, .slice A6 ph c6] 1 (Nat.le_refl _) (by unfold maxLen; omega) rfl).drew
        have hx7 := Bx5.of HE7.out
        obtain ⟨q0, q1, q2, q3, q4, hq⟩ := hx7
        have b1 : (k : Int) ≤ (c : Int) := by omega
        have b2 : (k : Int) ≤ (i : Int) := by omega
        clear hER7
        have HDL := Lib.hid (show (R.drop k).length = i - k by rw [List.length_drop, hRl])
        have HTL := Lib.hid (show (R.take k).length = k by rw [List.length_take, hRl]; omega)
        cases A with
        | some ad2 =>
          have hpA := er_from (HR7.out.below HBW.out) hki hic
          go_region_law ((refine step_append_er rfl (.tmp 42) (.tmp 45) rfl (base := W7.heap.size) Try.underlying26 hi9 hz9 hs9 hb9 (v := .slice (some ⟨W7.heap.size, 0, none⟩) 1 1) (by simp [Act.eval, Act.put]) hro (v2 := .slice (if c = k then some ad2 else some (ad2.add (k * 5))) (i - k) (c - k)) (by simp [Act.eval, Act.put]) hpA (by rw [HDL.out] <;> omega) (by simp) ?_; intro v9 w9 hown9 hgrow9 _))
          all_goals
            rw [HDL.out] at hown9
            obtain ⟨A9, c9, rfl⟩ := row_form4 hown9
            have h9 : Below W7.heap.size W7 w9 := HBW.out.grown hgrow9 HBW.out.size (fun j e => by cases e; exact Nat.le_refl _)
            have H9 := Lib.hid h9
            have HREST := Lib.hid (show ER w9 (.slice A9 (1 + (i - k)) c9) (((⟨s, d, lb, t, ps⟩, .slice A6 ph c6) : Ev) :: R.drop k) from ER.of_own (by rw [flatX_cons]; exact hown9) (fun p hp => by
              rcases List.mem_cons.1 hp with rfl | hp
              · exact HPP.out.below h9
              · exact (HR7.out.each p (List.mem_of_mem_drop hp)).below h9))
            have hal : Below w9.heap.size w9 (w9.alloc (.cells #[] 24)) := (Below.refl _ w9).alloc (Nat.le_refl _) _
            have HAL := Lib.hid hal
            have HRN := Lib.hid (World.ownsRow_lit (base := w9.heap.size) (size := 5) (e := 24) w9 #[] 0 (Nat.le_refl _) (by unfold maxLen; omega) rfl)
            have HPT := Lib.hid (er_take ((HR7.out.below h9).below hal) hki)
            clear hpA hro hown9 hgrow9 h9 hal q0 q1 q2 q3 q4 hq
            try generalize (if c = k then some ad2 else some (ad2.add (k * 5))) = AX
            go_wp2_with (at_builtin; first | (refine wpList_append_er rfl _ _ rfl (base := w9.heap.size) Try.underlying26 hi9 hz9 hs9 hb9 (v := .slice (some ⟨w9.heap.size, 0, none⟩) 0 0) rfl HRN.out (v2 := .slice (some ad2) k c) rfl HPT.out (by rw [HTL.out] <;> omega) (by simp) ?_; intro v10 w10 hown10 hgrow10 hat10; have HO10 := Lib.hid hown10; have HB10 := Lib.hid (show Below w9.heap.size w9 w10 from HAL.out.grown hgrow10 HAL.out.size (fun j e => by cases e; exact Nat.le_refl _)); clear hown10 hgrow10 hat10) | (refine wpList_append_er rfl _ _ rfl (base := w9.heap.size) Try.underlying26 hi9 hz9 hs9 hb9 (v := v10) rfl HO10.out (v2 := .slice A9 (1 + (i - k)) c9) rfl (HREST.out.below HB10.out) (by rw [HTL.out, List.length_cons, HDL.out] <;> omega) HB10.out.size ?_; intro v11 w11 hown11 hgrow11 _; obtain ⟨A11, c11, rfl⟩ := row_form4 hown11; have HB11 := Lib.hid (show Below w9.heap.size w9 w11 from HB10.out.grown hgrow11 HB10.out.size (fun j e => own_base HO10.out j e)); have HO11 := Lib.hid hown11; clear hown11 hgrow11))
            have hnn : 0 + (R.take k).length + (((⟨s, d, lb, t, ps⟩, .slice A6 ph c6) : Ev) :: R.drop k).length = i + 1 := by rw [HTL.out, List.length_cons, HDL.out] <;> omega
            have HNN := Lib.hid hnn
            have HGO := Lib.hid (show Below W7.heap.size W7 w11 from H9.out.trans (HB11.out.mono H9.out.size))
            go_roundg (n - (i + 1))
            case measure => omega
            case rel =>
              have ho := HO11.out
              rw [hnn] at ho
              obtain ⟨f1, f2, f3⟩ := own_facts ho
              refine ⟨i + 1, A11, c11, R.take k ++ (((⟨s, d, lb, t, ps⟩, .slice A6 ph c6) : Ev) :: R.drop k), by first | rfl | (congr 1; omega) | (rw [hnn]), by go_num, by omega, by omega, f1, f2, f3, ?_, ?_, ?_, ?_⟩
              · rw [List.length_append, HTL.out, List.length_cons, HDL.out] <;> omega
              · rw [HTK.out, List.map_append, List.map_cons]
                have hput := HI.out.2.1.put (x := (⟨s, d, lb, t, ps⟩ : Ed)) (k := k) (by rw [List.length_map, hRl]; exact hki) (fun j hj hkj => by rw [List.getElem_map]; exact HK.out.1 j (by simpa using hj) hkj) (fun j hj hkj => by rw [List.getElem_map]; exact HK.out.2.1 j (by simpa using hj) hkj)
                rw [← List.map_take, ← List.map_drop] at hput
                exact hput
              · exact er_put (w9 := w9) (w10 := w10) (v10 := v10) (A9 := A9) (c9 := c9) (n9 := 0) (D := []) HR7.out.each HPP.out HGO.out (by simpa using ho)
              · exact HI.out.2.2.2.trans ((HD7.out.trans (HGO.out.mono HD7.out.size)).mono (by have := HI.out.2.2.2.size; have := HN0.out; omega))
        | none =>
          have hc0 : c = 0 := HAC.out rfl
          subst hc0
          obtain rfl : i = 0 := by omega
          obtain rfl : k = 0 := by omega
          have hpA := (show ER (W7.alloc (.cells #[.string s, .string d, .string lb, .int .i64 t, .slice A6 ph c6] 24)).drew (.slice none 0 0) (R.drop 0) by rw [List.drop_zero]; exact HR7.out.below HBW.out)
          go_region_law ((refine step_append_er rfl (.tmp 42) (.tmp 45) rfl (base := W7.heap.size) Try.underlying26 hi9 hz9 hs9 hb9 (v := .slice (some ⟨W7.heap.size, 0, none⟩) 1 1) (by simp [Act.eval, Act.put]) hro (v2 := .slice none 0 0) (by simp [Act.eval, Act.put]) hpA (by rw [HDL.out] <;> omega) (by simp) ?_; intro v9 w9 hown9 hgrow9 _))
          all_goals
            rw [HDL.out] at hown9
            obtain ⟨A9, c9, rfl⟩ := row_form4 hown9
            have h9 : Below W7.heap.size W7 w9 := HBW.out.grown hgrow9 HBW.out.size (fun j e => by cases e; exact Nat.le_refl _)
            have H9 := Lib.hid h9
            have HREST := Lib.hid (show ER w9 (.slice A9 (1 + (0 - 0)) c9) (((⟨s, d, lb, t, ps⟩, .slice A6 ph c6) : Ev) :: R.drop 0) from ER.of_own (by rw [flatX_cons]; exact hown9) (fun p hp => by
              rcases List.mem_cons.1 hp with rfl | hp
              · exact HPP.out.below h9
              · exact (HR7.out.each p (List.mem_of_mem_drop hp)).below h9))
            have hal : Below w9.heap.size w9 (w9.alloc (.cells #[] 24)) := (Below.refl _ w9).alloc (Nat.le_refl _) _
            have HAL := Lib.hid hal
            have HRN := Lib.hid (World.ownsRow_lit (base := w9.heap.size) (size := 5) (e := 24) w9 #[] 0 (Nat.le_refl _) (by unfold maxLen; omega) rfl)
            have HPT := Lib.hid (er_take ((HR7.out.below h9).below hal) hki)
            clear hpA hro hown9 hgrow9 h9 hal q0 q1 q2 q3 q4 hq
            try generalize (if c = k then some ad2 else some (ad2.add (k * 5))) = AX
            go_wp2_with (at_builtin; first | (refine wpList_append_er rfl _ _ rfl (base := w9.heap.size) Try.underlying26 hi9 hz9 hs9 hb9 (v := .slice (some ⟨w9.heap.size, 0, none⟩) 0 0) rfl HRN.out (v2 := .slice none 0 0) rfl HPT.out (by rw [HTL.out] <;> omega) (by simp) ?_; intro v10 w10 hown10 hgrow10 hat10; have HO10 := Lib.hid hown10; have HB10 := Lib.hid (show Below w9.heap.size w9 w10 from HAL.out.grown hgrow10 HAL.out.size (fun j e => by cases e; exact Nat.le_refl _)); clear hown10 hgrow10 hat10) | (refine wpList_append_er rfl _ _ rfl (base := w9.heap.size) Try.underlying26 hi9 hz9 hs9 hb9 (v := v10) rfl HO10.out (v2 := .slice A9 1 c9) rfl (HREST.out.below HB10.out) (by rw [HTL.out, List.length_cons, HDL.out] <;> omega) HB10.out.size ?_; intro v11 w11 hown11 hgrow11 _; obtain ⟨A11, c11, rfl⟩ := row_form4 hown11; have HB11 := Lib.hid (show Below w9.heap.size w9 w11 from HB10.out.grown hgrow11 HB10.out.size (fun j e => own_base HO10.out j e)); have HO11 := Lib.hid hown11; clear hown11 hgrow11))
            have hnn : 0 + (R.take 0).length + (((⟨s, d, lb, t, ps⟩, .slice A6 ph c6) : Ev) :: R.drop 0).length = 0 + 1 := by rw [HTL.out, List.length_cons, HDL.out] <;> omega
            have HNN := Lib.hid hnn
            have HGO := Lib.hid (show Below W7.heap.size W7 w11 from H9.out.trans (HB11.out.mono H9.out.size))
            go_roundg (n - (0 + 1))
            case measure => omega
            case rel =>
              have ho := HO11.out
              rw [hnn] at ho
              obtain ⟨f1, f2, f3⟩ := own_facts ho
              refine ⟨0 + 1, A11, c11, R.take 0 ++ (((⟨s, d, lb, t, ps⟩, .slice A6 ph c6) : Ev) :: R.drop 0), by first | rfl | (congr 1; omega) | (rw [hnn]), by go_num, by omega, by omega, f1, f2, f3, ?_, ?_, ?_, ?_⟩
              · rw [List.length_append, HTL.out, List.length_cons, HDL.out] <;> omega
              · rw [HTK.out, List.map_append, List.map_cons]
                have hput := HI.out.2.1.put (x := (⟨s, d, lb, t, ps⟩ : Ed)) (k := 0) (by rw [List.length_map, hRl]; exact hki) (fun j hj hkj => by rw [List.getElem_map]; exact HK.out.1 j (by simpa using hj) hkj) (fun j hj hkj => by rw [List.getElem_map]; exact HK.out.2.1 j (by simpa using hj) hkj)
                rw [← List.map_take, ← List.map_drop] at hput
                exact hput
              · exact er_put (w9 := w9) (w10 := w10) (v10 := v10) (A9 := A9) (c9 := c9) (n9 := 0) (D := []) HR7.out.each HPP.out HGO.out (by simpa using ho)
              · exact HI.out.2.2.2.trans ((HD7.out.trans (HGO.out.mono HD7.out.size)).mono (by have := HI.out.2.2.2.size; have := HN0.out; omega))
    · obtain rfl : i = n := by omega
      go_wp2_with fail
      go_ret
      refine ⟨_, rfl, R, HI.out.1, ?_, HI.out.2.2.1, HI.out.2.2.2⟩
      have := HI.out.2.1
      rwa [List.take_of_length_le (by rw [HN.out]; exact Nat.le_refl _)] at this
end Go.Proofs.Ytpoefcpgcojppaa

namespace Go.Proofs.Ytpoefcpgcojppaa
open Go.ChangeShapes Go.WideShapes Go.ChangeAt Go.RowKit
set_option linter.unusedVariables false

def mP (i : Nat) : Pt := (⟨#[109]⟩, 0, 8000024 + i, ⟨#[]⟩)
def mksP : List Pt := (List.range 12).map mP
theorem mksP_len : mksP.length = 12 := by simp [mksP]
theorem mksP_get (k : Nat) (h : k < mksP.length) : mksP[k] = mP k := by simp [mksP]
theorem markProp_any (i : Nat) (w : World) (hi : i < 12) : Calls Try.prog 69 #[.int .i64 1, .int .i64 i] w fun e w' => e = .returned (.agg #[.string ⟨#[109]⟩, .int .i64 0, .int .i64 (8000024 + i), .string ⟨#[]⟩]) ∧ Gr w w' := by
  have hg : Gr w (w.alloc (.cells #[.string ⟨#[109]⟩, .int .i64 0, .int .i64 (8000024 + i), .string ⟨#[]⟩] 53)) := (Gr.refl w).alloc _
  have HG := Lib.hid hg
  clear hg
  go_enter Try.func69, Try.ntmps69
  go_wp2_with (go_at_call 79; refine (mark_any _ _ (by omega) (by omega)).mono ?_; rintro e w' ⟨hx, hw⟩; subst hx; subst hw)
  have hn := heap_alloc_new w (.cells #[.string ⟨#[109]⟩, .int .i64 0, .int .i64 (8000024 + i), .string ⟨#[]⟩] 53)
  have d0 := cell_of_row _ _ 0 _ 53 (0, 0) hn
  have d1 := cell_of_row _ _ 1 _ 53 (0, 0) hn
  have d2 := cell_of_row _ _ 2 _ 53 (0, 0) hn
  have d3 := cell_of_row _ _ 3 _ 53 (0, 0) hn
  exact bodyPost_ret (v := .agg #[.string ⟨#[109]⟩, .int .i64 0, .int .i64 (8000024 + i), .string ⟨#[]⟩]) (by simp [results, Try.results69, go_sem, d0, d1, d2, d3]) rfl ⟨rfl, HG.out⟩

def LentP (l : List Pt) (w : World) (e : Ending) (w' : World) : Prop :=
  ∃ g c, e = .returned (.slice (some ⟨g, 0, none⟩) l.length c) ∧ w'.ownsRow w.heap.size 53 4 (.slice (some ⟨g, 0, none⟩) (l.length + 12) c) (l.length + 12) (flatP (l ++ mksP)) ∧ Below w.heap.size w w'

set_option maxHeartbeats 1000000 in
theorem lentP_any (v : Value) (l : List Pt) (w : World) (hv : PR w v l) (hll : l.length ≤ 1000000) : Calls Try.prog 37 #[v] w (LentP l w) := by
  obtain ⟨i9, hi9, hz9, hs9, hb9⟩ := info_parts53
  have HV := Lib.hid hv
  obtain ⟨A, c, rfl, hv2⟩ := hv
  clear hv2
  obtain ⟨M, hM⟩ : ∃ M, M = madeCells (Value.agg #[.string ⟨#[]⟩, .int .i64 0, .int .i64 0, .string ⟨#[]⟩]).cells ((l.length + 12) * i9.size) := ⟨_, rfl⟩
  have hMs : M.size = (l.length + 12) * 4 := by rw [hM, size_madeCells, hs9]
  have eN : ((l.length : Int) + 12).toNat = l.length + 12 := by omega
  have hmk : ∀ W : World, (Instr.makeSlice 22 (.int .i64 0) (.int .i64 ((l.length : Int) + 12))).run Try.prog W = .ok (.slice (some ⟨W.heap.size, 0, none⟩) 0 (l.length + 12)) (W.alloc (.cells M 53)) := fun W => by
    have h := run_make (P := Try.prog) W 22 53 i9 (.agg #[.string ⟨#[]⟩, .int .i64 0, .int .i64 0, .string ⟨#[]⟩]) Try.underlying22 hi9 hz9 .i64 .i64 0 ((l.length : Int) + 12) (by omega) (by omega) (by rw [hb9]; omega) (by omega)
    rw [eN, ← hM] at h
    simpa using h
  have HMS := Lib.hid hMs
  clear hM hMs eN
  go_enter Try.func37, Try.ntmps37
  go_wp2_with (at_builtin; refine wpList_append_pr (v := .slice (some ⟨w.heap.size, 0, none⟩) 0 (l.length + 12)) rfl _ _ rfl Try.underlying22 hi9 hz9 hs9 hb9 rfl (World.ownsRow_made (base := w.heap.size) (size := 4) w M (l.length + 12) (Nat.le_refl _) (by unfold maxLen; omega) HMS.out) rfl (HV.out.below ((Below.refl _ _).alloc (Nat.le_refl _) _)) (by omega) (by simp) ?_; intro mv w1 hown1 hgrow1 hloc1; obtain ⟨Am, cm, rfl⟩ := row_form4 hown1)
  have hB1 : Below w.heap.size w w1 := ((Below.refl _ w).alloc (Nat.le_refl _) _).grown hgrow1 (by simp) (fun k hk => by simp [Value.ownBlock] at hk; omega)
  have HB1 := Lib.hid hB1
  have HOWN1 := Lib.hid hown1
  clear hgrow1 hloc1 hown1 hB1 hmk
  go_loopw [3, 4] (fun v i wr => ∃ k : Nat, k ≤ 12 ∧ i = .int .i64 k ∧ wr.ownsRow w.heap.size 53 4 v (l.length + k) (flatP (l ++ mksP.take k)) ∧ Below w.heap.size w wr) (fun _ i _ => 12 - (Lib.intOf i).toNat)
  case atStart => exact ⟨0, Nat.zero_le _, rfl, by simpa using HOWN1.out, HB1.out⟩
  case round =>
    obtain ⟨k, hk, rfl, hrow, hbe⟩ := hrel
    have HROW := Lib.hid hrow
    have HBE := Lib.hid hbe
    have hzr := hbe.size
    by_cases hlt : k < 12
    · have hk12 : (k : Int) < 12 := by omega
      clear hrow hbe
      go_wp2_with fail
      refine (markProp_any k _ hlt).mono ?_
      rintro e w2 ⟨rfl, hg2⟩
      have HG2 := Lib.hid hg2.below
      have hrow2 := own_below HROW.out HG2.out
      have hz2 := HG2.out.size
      clear hg2
      go_wp2_with (at_builtin; refine wpList_append_pr rfl _ _ rfl (base := w.heap.size) Try.underlying22 hi9 hz9 hs9 hb9 rfl (hrow2.alloc _) rfl (PR.one _ (mP k) 53) (by simp; omega) (by simp; omega) ?_; intro v' w4 hown' hgrow hloc)
      go_roundw
      case rel =>
        refine ⟨k + 1, by omega, by go_num, ?_, ?_⟩
        · rw [List.take_succ_eq_append_getElem (by rw [mksP_len]; exact hlt), mksP_get, ← List.append_assoc, flatP_app, ← Nat.add_assoc]
          exact hown'
        · exact ((HBE.out.trans (HG2.out.mono hzr)).alloc (by omega) _).grown hgrow (by simp; omega) (fun g hg => own_base hrow2 g hg)
      case measure => simp [Lib.intOf]; omega
    · obtain rfl : k = 12 := by omega
      rw [List.take_of_length_le (by rw [mksP_len]; exact Nat.le_refl _)] at hrow
      obtain ⟨g, cap, rfl⟩ := ownsRow_succ (k := l.length + 11) hrow
      have hcap := own_room hrow
      have hc2 : l.length ≤ cap := by omega
      have HR2 := Lib.hid hrow
      clear hrow hbe
      go_wp2_with fail
      go_ret
      exact ⟨g, cap, rfl, HR2.out, HBE.out⟩

set_option maxHeartbeats 2000000 in
theorem keptP_any {w : World} {A1 : Option Addr} {c q : Nat} (l : List Pt) (v : Value) (hrow : PR w (.slice A1 q c) (l ++ mksP)) (hqc : q ≤ c) (hv : PR w v l) (hl : l.length ≤ 100000) :
    Calls Try.prog 55 #[.slice A1 l.length c, v] w fun e w' => e = .returned (.bool true) ∧ Gr w w' := by
  have HV := Lib.hid hv
  have HW := Lib.hid hrow
  have hq12 : q = l.length + 12 := by
    obtain ⟨A', c', e, _⟩ := hrow
    injection e with e1 e2 e3
    rw [List.length_append, mksP_len] at e2
    exact e2
  obtain ⟨A, cl, rfl, hv2⟩ := hv
  obtain ⟨ad1, hA1, _⟩ := PR.at4 hrow (k := 0) (by rw [List.length_append, mksP_len]; omega)
  subst hA1
  obtain ⟨n, hn⟩ : ∃ n, l.length = n := ⟨_, rfl⟩
  have HN := Lib.hid hn
  rw [hn] at hl HV hq12
  have HQ := Lib.hid hq12
  have hnat : ((n : Int) + 12).toNat = q := by omega
  have hci : (n : Int) + 12 ≤ (c : Int) := by omega
  have hq9 : q ≤ 100012 := by omega
  rw [hn]
  clear hn hq12 hv2 hrow
  go_enter Try.func55, Try.ntmps55
  go_wp2_with fail
  clear hnat hci
  go_loopw [6] (fun i wr => ∃ k : Nat, k ≤ q ∧ i = .int .i64 k ∧ Gr w wr) (fun i _ => q - (Lib.intOf i).toNat)
  case atStart => exact ⟨0, Nat.zero_le _, rfl, Gr.refl _⟩
  case round =>
    obtain ⟨k, hk, rfl, hbe⟩ := hrel
    have HBE := Lib.hid hbe
    by_cases hlt : k < q
    · have hkl : k < (l ++ mksP).length := by rw [List.length_append, mksP_len, HN.out, ← HQ.out]; exact hlt
      obtain ⟨adx, hax, hab, g0, g1', g2', g3'⟩ := PR.at4 (HW.out.gr hbe) hkl
      injection hax with hax
      subst hax
      obtain ⟨t, ht⟩ : ∃ t, (l ++ mksP)[k] = t := ⟨_, rfl⟩
      rw [ht] at g0 g1' g2' g3'
      have hk0 : (0 : Int) ≤ (k : Int) := by omega
      have hkq : (k : Int) < (q : Int) := by omega
      obtain ⟨tk, ta, tb, tx⟩ := t
      simp only at g0 g1' g2' g3'
      have hEQ := fun W => eq53_eq W tk ta tb tx
      by_cases hkn : k < n
      · have hk1 : k < l.length := by rw [HN.out]; exact hkn
        obtain ⟨ad, f1, hab2, q0, q1, q2, q3⟩ := PR.at4 (HV.out.gr HBE.out) hk1
        subst f1
        have e : l[k] = (tk, ta, tb, tx) := by rw [← ht, List.getElem_append_left]
        rw [e] at q0 q1 q2 q3
        simp only at q0 q1 q2 q3
        have hd1 : decide (n ≤ k) = false := by simpa using hkn
        have hkni : (k : Int) < (n : Int) := by omega
        clear e ht hbe
        go_upto_region 7 with (fail)
        go_quiet (fail)
        have HBQ := Lib.hid (HBE.out.drewN nq)
        clear q0 q1 q2 q3 g0 g1' g2' g3' hEQ
        generalize wr.drewN nq = WT at *
        go_wp2_with fail
        go_roundw
        case rel => exact ⟨k + 1, by omega, by go_num, HBQ.out⟩
        case measure => simp [Lib.intOf]; omega
      · obtain ⟨j, hj⟩ : ∃ j : Nat, j = k - n := ⟨_, rfl⟩
        have hsub : (k : Int) - (n : Int) = (j : Int) := by omega
        have hj12 : j < 12 := by have := HQ.out; omega
        have hjm : j < mksP.length := by rw [mksP_len]; exact hj12
        have hT : mP j = (tk, ta, tb, tx) := by
          rw [← mksP_get j hjm, ← ht, List.getElem_append_right (by rw [HN.out]; omega)]
          congr 1
          rw [HN.out, hj]
        unfold mP at hT
        simp only [Prod.mk.injEq] at hT
        obtain ⟨t1, t2, t3, t4⟩ := hT
        subst t1 t2 t3 t4
        have hd1 : decide (k < n) = false := by simpa using hkn
        have hd2 : decide (n ≤ k) = true := by simpa using hkn
        clear ht hj hkn hbe
        go_upto_region 7 with (fail)
        have kg0 := cell_grown (a := ad1.add (k * 4)) (by rw [block_add]; exact hab) g0
        have kg1 := cell_grown (a := ⟨(ad1.add (k * 4)).block, (ad1.add (k * 4)).off + 1, none⟩) (by show (ad1.add (k * 4)).block < _; rw [block_add]; exact hab) g1'
        have kg2 := cell_grown (a := ⟨(ad1.add (k * 4)).block, (ad1.add (k * 4)).off + 2, none⟩) (by show (ad1.add (k * 4)).block < _; rw [block_add]; exact hab) g2'
        have kg3 := cell_grown (a := ⟨(ad1.add (k * 4)).block, (ad1.add (k * 4)).off + 3, none⟩) (by show (ad1.add (k * 4)).block < _; rw [block_add]; exact hab) g3'
        have cM : ∀ n os, Calls Try.prog 69 #[.int .i64 1, .int .i64 j] (Sort.grow (wr.drewN n) os) fun e w'' => e = .returned (.agg #[.string ⟨#[109]⟩, .int .i64 0, .int .i64 (8000024 + j), .string ⟨#[]⟩]) ∧ ∃ p : GrownBy, w'' = Sort.grow (wr.drewN p.n) p.os := fun n os => by
          have h := markProp_any j (Sort.grow (wr.drewN n) os) hj12
          unfold Gr at h
          exact Calls.grown_of h
        refine wp_region_quiet_grown mixed (by kernel_rfl) ?_
        repeat (first | go_big_quiet_skip | (go_big_quiet_want; go_big_quiet_op; first | go_big_quiet_on | go_big_quiet_call (exact cM _ _)) | quiet_step (exact cM _ _))
        refine wpQuiet_nil ?_
        intro _ hw'
        obtain ⟨⟨nq, osq⟩, hw''⟩ := hw'
        subst hw''
        have HBQ := Lib.hid (HBE.out.trans (⟨nq, osq, rfl⟩ : Gr wr (Sort.grow (wr.drewN nq) osq)))
        clear cM kg0 kg1 kg2 kg3 g0 g1' g2' g3' hEQ
        generalize Sort.grow (wr.drewN nq) osq = WT at *
        go_wp2_with fail
        go_roundw
        case rel => exact ⟨k + 1, by omega, by go_num, HBQ.out⟩
        case measure => simp [Lib.intOf]; omega
    · obtain rfl : k = q := by omega
      clear hbe
      go_wp2_with fail
      go_ret
      exact ⟨rfl, HBE.out⟩
end Go.Proofs.Ytpoefcpgcojppaa

namespace Go.Proofs.Ytpoefcpgcojppaa
open Go.ChangeShapes Go.WideShapes Go.ChangeAt Go.RowKit
set_option linter.unusedVariables false

/-- block B is a reader's: what is still to be read, whether it was bad -/
structure RdQ (w : World) (B : Nat) (s : Rs) : Prop where
  ex : ∃ v, w.heap[B]? = some (.cells #[v, .bool s.2] 76 (0, 0)) ∧ SB w B v s.1
theorem RdQ.lt {w : World} {B : Nat} {s : Rs} (h : RdQ w B s) : B < w.heap.size := by
  obtain ⟨v, h1, _⟩ := h.ex
  exact (Array.getElem?_eq_some_iff.1 h1).1
theorem RdQ.keep {w w' : World} {B : Nat} {s : Rs} (h : RdQ w B s) {p : Nat → Prop} (hk : Keep p w w') (hp : ∀ k, k ≤ B → p k) : RdQ w' B s := by
  obtain ⟨v, h1, h2⟩ := h.ex
  have hb := hk.block B h.lt (hp B (Nat.le_refl _))
  exact ⟨v, hb.trans h1, h2.keep ⟨hk.os, hk.tape, hk.output, hk.size, fun k hlt hb => hk.block k hlt (hp k (Nat.le_of_lt hb))⟩⟩
theorem RdQ.below {w w' : World} {B : Nat} {s : Rs} (h : RdQ w B s) (hb : Below w.heap.size w w') : RdQ w' B s := h.keep (p := fun _ => True) (Keep.of_below hb) fun _ _ => trivial
theorem keep_set2 (w : World) (B i : Nat) (v : Value) : Keep (fun k => k ≠ B) w (w.setCell ⟨B, i, none⟩ v) :=
  ⟨rfl, rfl, rfl, by simp, fun k hk hne => by rw [Below.heap_setCell _ _ _ _ hne]⟩

def TakeR (B n : Nat) (s : Rs) (w : World) (e : Ending) (w' : World) : Prop := ∃ A c, e = .returned (.slice A n c) ∧ BR w' (.slice A n c) (tk n s).1 ∧ RdQ w' B (tk n s).2 ∧ Keep (fun k => k ≠ B) w w' ∧ (0 < n → ∀ ad, A = some ad → ad.block < B ∨ w.heap.size ≤ ad.block)

theorem made_list (z : Value) (n : Nat) : (madeCells #[z] n).toList = List.replicate n z := by
  apply List.ext_getElem
  · simp [madeCells]
  · intro i h1 h2
    simp [madeCells, Nat.mod_one]
theorem run_fill (n : Nat) (hn : n ≤ 1000) : ∃ M : Array Value, M.toList = byC (List.replicate n 0) ∧ ∀ W : World, (Instr.makeSlice 34 (.int .i64 (n : Int)) (.int .i64 (n : Int))).run Try.prog W = .ok (.slice (some ⟨W.heap.size, 0, none⟩) n n) (W.alloc (.cells M 5)) := by
  obtain ⟨i9, hi9, hz9, hs9, hb9⟩ := info_parts5
  refine ⟨madeCells (Value.int .u8 0).cells (n * i9.size), ?_, fun W => ?_⟩
  · rw [hs9, Nat.mul_one]
    show (madeCells #[.int .u8 0] n).toList = _
    rw [made_list]
    simp [byC]
  · have h := run_make (P := Try.prog) W 34 5 i9 (.int .u8 0) Try.underlying34 hi9 hz9 .i64 .i64 (n : Int) (n : Int) (by omega) (by omega) (by rw [hb9]; omega) (by omega)
    simpa using h
/-- a block of one's own reads as what lies in it -/
theorem BR.of_block {w : World} {b c : Nat} {l : List UInt8} {cs : Array Value} {t : TypeId} (h : w.heap[b]? = some (.cells cs t (0, 0))) (hc : cs.toList = byC l) : BR w (.slice (some ⟨b, 0, none⟩) l.length c) l := by
  refine ⟨_, _, rfl, fun hn => ⟨_, rfl, (Array.getElem?_eq_some_iff.1 h).1, fun j u hj => ?_⟩⟩
  have h2 := cell_of_row w b j cs t (0, 0) h
  have e : (Addr.add ⟨b, 0, none⟩ j) = ⟨b, j, none⟩ := by
    unfold Addr.add
    split
    · rename_i h0; subst h0; rfl
    · simp
  rw [e, h2, ← Array.getElem?_toList, hc]
  exact hj

set_option maxHeartbeats 1000000 in
theorem take_any {w : World} {B : Nat} {s : Rs} (h : RdQ w B s) (n : Nat) (hn : n ≤ 1000) (hl : s.1.length ≤ 281474976710656) : Calls Try.prog 61 #[.pointer (some ⟨B, 0, none⟩), .int .i64 n] w (TakeR B n s w) := by
  unfold TakeR
  obtain ⟨l, bad⟩ := s
  have H := Lib.hid h
  obtain ⟨v, hblk, hv⟩ := h.ex
  simp only at hblk hv hl
  have HV := Lib.hid hv
  have HBLK := Lib.hid hblk
  have hlt : B < w.heap.size := (Array.getElem?_eq_some_iff.1 hblk).1
  obtain ⟨A, c, rfl, hc, _, hA⟩ := hv
  obtain ⟨m, hM⟩ : ∃ m, l.length = m := ⟨_, rfl⟩
  have HM := Lib.hid hM
  rw [hM] at hblk HV HBLK hc hl
  clear hM
  have c0 : w.cell? ⟨B, 0, none⟩ = some (.slice A m c) := by rw [cell_of_row _ _ 0 _ 76 (0, 0) hblk]; rfl
  have c1 : w.cell? ⟨B, 1, none⟩ = some (.bool bad) := by rw [cell_of_row _ _ 1 _ 76 (0, 0) hblk]; rfl
  have f0 := Go.Joins.unfrozen_of_block hblk 0
  have f1 := Go.Joins.unfrozen_of_block hblk 1
  clear hblk h
  by_cases hbad : bad = true ∨ m < n
  · have HTK := Lib.hid (show tk n (l, bad) = (List.replicate n 0, (l, true)) by unfold tk; rw [if_pos (by simpa [HM.out] using hbad)])
    obtain ⟨M, hM1, hM2⟩ := run_fill n hn
    have HM1 := Lib.hid hM1
    have hb1 := Go.Joins.block_setCell HBLK.out (i := 1) (.bool true)
    have hb2 : ((w.setCell ⟨B, 1, none⟩ (.bool true)).alloc (.cells M 5)).heap[B]? = some (.cells #[.slice A m c, .bool true] 76 (0, 0)) := (Below.heap_alloc _ _ _ (by simpa using hlt)).trans hb1
    have HQ := Lib.hid (show RdQ ((w.setCell ⟨B, 1, none⟩ (.bool true)).alloc (.cells M 5)) B (l, true) from ⟨_, hb2, (HV.out.keepB (keep_set2 w B 1 (.bool true))).keepB (Keep.of_below ((Below.refl _ _).alloc (Nat.le_refl _) _))⟩)
    have HBR := Lib.hid (show BR ((w.setCell ⟨B, 1, none⟩ (.bool true)).alloc (.cells M 5)) (.slice (some ⟨(w.setCell ⟨B, 1, none⟩ (.bool true)).heap.size, 0, none⟩) n n) (List.replicate n 0) by
      have := BR.of_block (c := n) (heap_alloc_new (w.setCell ⟨B, 1, none⟩ (.bool true)) (.cells M 5)) HM1.out
      rwa [List.length_replicate] at this)
    have HK := Lib.hid ((keep_set2 w B 1 (.bool true)).trans (q := fun k => k ≠ B) (Keep.of_below ((Below.refl _ (w.setCell ⟨B, 1, none⟩ (.bool true))).alloc (Nat.le_refl _) (.cells M 5))) (fun _ _ h => h))
    rw [HTK.out]
    clear hb1 hb2 hM1 hA hc
    cases bad with
    | true =>
      go_enter Try.func61, Try.ntmps61
      go_wp2_with fail
      go_ret
      exact ⟨_, _, rfl, by simpa using HBR.out, HQ.out, HK.out, (fun _ ad e => by injection e with e; subst e; exact .inr (by simp))⟩
    | false =>
      have hmn : (m : Int) < (n : Int) := by rcases hbad with h | h; · cases h
                                             · omega
      clear hbad
      go_enter Try.func61, Try.ntmps61
      go_wp2_with fail
      go_ret
      exact ⟨_, _, rfl, by simpa using HBR.out, HQ.out, HK.out, (fun _ ad e => by injection e with e; subst e; exact .inr (by simp))⟩
  · have hb0 : bad = false := by cases bad <;> simp_all
    subst hb0
    have hnm : n ≤ m := by omega
    have hnmi : ¬ ((m : Int) < (n : Int)) := by omega
    have HTK := Lib.hid (show tk n (l, false) = (l.take n, (l.drop n, false)) by unfold tk; rw [if_neg (by simp [HM.out]; omega)])
    rw [HTK.out]
    have hnc : n ≤ c := by omega
    clear hbad
    cases A with
    | none =>
      have hc0 : c = 0 := hA rfl
      subst hc0
      obtain rfl : m = 0 := by omega
      obtain rfl : n = 0 := by omega
      have hl0 : l = [] := List.eq_nil_of_length_eq_zero HM.out
      subst hl0
      have HQ := Lib.hid (show RdQ (w.setCell ⟨B, 0, none⟩ (.slice none 0 0)) B ([], false) from ⟨_, Go.Joins.block_setCell HBLK.out (i := 0) (.slice none 0 0), HV.out.keepB (keep_set2 w B 0 _)⟩)
      clear hc hA hl
      go_enter Try.func61, Try.ntmps61
      go_wp2_with fail
      go_ret
      exact ⟨_, _, rfl, BR.nil _ _ _, HQ.out, keep_set2 w B 0 _⟩
    | some ad =>
      have HS := Lib.hid (And.intro (HV.out.take hnm) (HV.out.drop hnm))
      have HAD := Lib.hid (show 0 < m → ad.block < B from fun h0 => by
        obtain ⟨A', c', e, _, hh, _⟩ := HV.out
        injection e with e1 e2 e3
        obtain ⟨ad', p1, p2, _⟩ := hh (by omega)
        rw [p1] at e1
        injection e1 with e1
        rw [e1]
        exact p2)
      clear hA
      by_cases hck : c = n
      · have HD := Lib.hid (show SB w B (.slice (some ad) 0 0) (l.drop n) by have h1 := HS.out.2; have h2 : m - n = 0 := (by omega); rw [if_pos hck, hck, Nat.sub_self, h2] at h1; exact h1)
        subst hck
        have HQ := Lib.hid (show RdQ (w.setCell ⟨B, 0, none⟩ (.slice (some ad) 0 0)) B (l.drop c, false) from ⟨_, Go.Joins.block_setCell HBLK.out (i := 0) (.slice (some ad) 0 0), HD.out.keepB (keep_set2 w B 0 _)⟩)
        go_enter Try.func61, Try.ntmps61
        go_wp2_with fail
        go_ret
        exact ⟨_, _, rfl, (HS.out.1.keepB (keep_set2 w B 0 _)).br, HQ.out, keep_set2 w B 0 _, (fun h0 ad' e => by injection e with e; subst e; exact .inl (HAD.out (by omega)))⟩
      · have HD := Lib.hid (show SB w B (.slice (some (ad.add n)) (m - n) (c - n)) (l.drop n) by have := HS.out.2; rwa [if_neg hck] at this)
        have hck2 : ¬ c - n = 0 := by omega
        have HQ := Lib.hid (show RdQ (w.setCell ⟨B, 0, none⟩ (.slice (some (ad.add n)) (m - n) (c - n))) B (l.drop n, false) from ⟨_, Go.Joins.block_setCell HBLK.out (i := 0) (.slice (some (ad.add n)) (m - n) (c - n)), HD.out.keepB (keep_set2 w B 0 _)⟩)
        go_enter Try.func61, Try.ntmps61
        go_wp2_with fail
        go_ret
        exact ⟨_, _, rfl, (HS.out.1.keepB (keep_set2 w B 0 _)).br, HQ.out, keep_set2 w B 0 _, (fun h0 ad' e => by injection e with e; subst e; exact .inl (HAD.out (by omega)))⟩

def RTextR (B : Nat) (s : Rs) (w : World) (e : Ending) (w' : World) : Prop := e = .returned (.string (rT s).1) ∧ RdQ w' B (rT s).2 ∧ Keep (fun k => k ≠ B) w w'
def RNumR (B : Nat) (s : Rs) (w : World) (e : Ending) (w' : World) : Prop := e = .returned (.int .i64 (rN s).1) ∧ RdQ w' B (rN s).2 ∧ Keep (fun k => k ≠ B) w w'
end Go.Proofs.Ytpoefcpgcojppaa

namespace Go.Proofs.Ytpoefcpgcojppaa
open Go.ChangeShapes Go.WideShapes Go.ChangeAt Go.RowKit
set_option linter.unusedVariables false

theorem tk_le (n : Nat) (s : Rs) : (tk n s).2.1.length ≤ s.1.length := by
  unfold tk
  split
  · exact Nat.le_refl _
  · simp

set_option maxHeartbeats 1000000 in
theorem rtext_any {w : World} {B : Nat} {s : Rs} (h : RdQ w B s) (hl : s.1.length ≤ 281474976710656) : Calls Try.prog 59 #[.pointer (some ⟨B, 0, none⟩)] w (RTextR B s w) := by
  unfold RTextR rT
  have f1 := take_any h 1 (by omega) hl
  unfold TakeR at f1
  have hl2 := Nat.le_trans (tk_le 1 s) hl
  have hT := tk_len 1 s
  generalize (tk 1 s).2 = s1 at f1 hl2 ⊢
  generalize (tk 1 s).1 = T at f1 hT ⊢
  obtain ⟨q, hq⟩ : ∃ q, (b0 T).toNat = q := ⟨_, rfl⟩
  have hq1 : q < 256 := by rw [← hq]; exact (b0 T).toNat_lt
  have HT := Lib.hid (show byC T = [.int .u8 (q : Int)] by rw [b0_one hT, ← hq]; rfl)
  rw [hq]
  have f2 := fun W (hW : RdQ W B s1) => take_any hW q (by omega) hl2
  unfold TakeR at f2
  generalize (tk q s1).2 = s2 at f2 ⊢
  generalize (tk q s1).1 = X at f2 ⊢
  have F1 := Lib.hid f1
  have F2 := Lib.hid f2
  clear f1 f2 h hl hq hT
  go_enter Try.func59, Try.ntmps59
  go_wp2_with (go_at_call 61; refine F1.out.mono ?_; clear F1; rintro z w1 ⟨A1, c1, hz, hb1, hr1, hk1, _⟩; subst hz; have HR1 := Lib.hid hr1; have HK1 := Lib.hid hk1; have hcl : ∃ ad, A1 = some ad ∧ w1.cell? ad = some (.int .u8 (q : Int)) := (by obtain ⟨A', c', e, hh⟩ := hb1; have e1 : T.length = 1 := (by have := congrArg List.length HT.out; rw [byC_len] at this; exact this); injection e with e2 e3 e4; subst e2; obtain ⟨ad, p1, _, p2⟩ := hh (by omega); have p3 := p2 0 (.int .u8 (q : Int)) (by rw [HT.out]; rfl); exact ⟨ad, p1, by simpa [Addr.add] using p3⟩); obtain ⟨ad, hA, hcell⟩ := hcl; subst hA; clear hb1 hr1 hk1)
  go_wp2_with (first | (go_at_call 61; refine (F2.out _ HR1.out).mono ?_; clear F2; rintro z w2 ⟨A2, c2, hz, hb2, hr2, hk2, _⟩; subst hz; have HR2 := Lib.hid hr2; have HK2 := Lib.hid hk2; have hcv := conv_br hb2; clear hb2 hr2 hk2))
  go_ret
  exact ⟨rfl, HR2.out, keepB_trans HK1.out HK2.out⟩

set_option maxHeartbeats 1000000 in
theorem rnumber_any {w : World} {B : Nat} {s : Rs} (h : RdQ w B s) (hl : s.1.length ≤ 281474976710656) : Calls Try.prog 60 #[.pointer (some ⟨B, 0, none⟩)] w (RNumR B s w) := by
  unfold RNumR rN
  have f1 := take_any h 6 (by omega) hl
  unfold TakeR at f1
  have hT := tk_len 6 s
  generalize (tk 6 s).2 = s1 at f1 ⊢
  generalize (tk 6 s).1 = L at f1 hT ⊢
  have HM := Lib.hid hT
  have F1 := Lib.hid f1
  clear f1 h hl hT
  go_enter Try.func60, Try.ntmps60
  go_wp2_with (go_at_call 61; refine F1.out.mono ?_; clear F1; rintro z w1 ⟨A1, c1, hz, hb1, hr1, hk1, _⟩; subst hz; have HR1 := Lib.hid hr1; have HK1 := Lib.hid hk1; have HV := Lib.hid hb1; clear hb1 hr1 hk1)
  go_loop [4, 5] (fun s i => ∃ k : Nat, k ≤ 6 ∧ i = .int .i64 k ∧ s = .int .i64 (beN (L.take k))) (fun _ i => 6 - (Lib.intOf i).toNat)
  case atStart => exact ⟨0, Nat.zero_le _, rfl, rfl⟩
  case round =>
    obtain ⟨k, hk, rfl, rfl⟩ := hrel
    by_cases hlt : k < 6
    · have e1 : k < L.length := by rw [HM.out]; exact hlt
      obtain ⟨ad, f1, _, q0⟩ := BR.at1 HV.out e1
      subst f1
      obtain ⟨c1, hc1⟩ : ∃ c, L[k] = c := ⟨_, rfl⟩
      have HST : Hid (beN (L.take (k + 1)) = beN (L.take k) * 256 + (c1.toNat : Int)) := by
        show _ = _
        rw [beN_take e1, hc1]
      rw [hc1] at q0
      have hb1 := (beN_bound (L.take k)).1
      have hb2 : beN (L.take k) < 1099511627776 := by
        have h5 : (L.take k).length ≤ 5 := by rw [List.length_take]; omega
        have := (beN_bound (L.take k)).2
        generalize beN (L.take k) = x at this ⊢
        generalize (L.take k).length = q at this h5
        have hq : q = 0 ∨ q = 1 ∨ q = 2 ∨ q = 3 ∨ q = 4 ∨ q = 5 := by omega
        rcases hq with rfl | rfl | rfl | rfl | rfl | rfl <;> simp at this <;> omega
      obtain ⟨x, hx⟩ : ∃ x, beN (L.take k) = x := ⟨_, rfl⟩
      rw [hx] at hb1 hb2 HST ⊢
      have hcb := c1.toNat_lt
      have hwc : IntKind.i64.wrap (c1.toNat : Int) = (c1.toNat : Int) := by rw [IntKind.wrap_i64]; omega
      have hwr : IntKind.i64.wrap (256 * x) = 256 * x := by rw [IntKind.wrap_i64]; omega
      clear hx hc1
      go_wp2_with fail
      go_round
      case rel => exact ⟨k + 1, by omega, by go_num, by rw [HST.out]; congr 1; omega⟩
      case measure => simp [Lib.intOf]; omega
    · obtain rfl : k = 6 := by omega
      rw [List.take_of_length_le (by rw [HM.out]; exact Nat.le_refl _)]
      go_wp2_with fail
      go_ret
      exact ⟨rfl, HR1.out, HK1.out⟩
end Go.Proofs.Ytpoefcpgcojppaa
