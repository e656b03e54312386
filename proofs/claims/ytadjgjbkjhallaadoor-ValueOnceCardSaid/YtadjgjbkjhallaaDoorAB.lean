/- Walks over rows of rows: how many there are, whether they are the same, within one another. -/
import Derived.Test.YtadjgjbkjhallaaDoorAA
import Derived.Lib.QuietBelow
import Derived.BigQuiet
namespace Go.Proofs.YtadjgjbkjhallaaDoor
open Go.ChangeShapes Go.WideShapes Go.ChangeAt Go.RowKit Go.Deep
set_option linter.unusedVariables false

/-- how many rows and values there are -/
def tot (ls : List (List Vt)) : Nat := ls.length + (ls.map List.length).sum
theorem sum_take (ls : List (List Vt)) (k : Nat) (h : k < ls.length) : ((ls.take (k + 1)).map List.length).sum = ((ls.take k).map List.length).sum + ls[k].length := by
  rw [List.take_succ_eq_append_getElem h]; simp only [List.map_append, List.sum_append, List.map_cons, List.map_nil, List.sum_cons, List.sum_nil]; omega
theorem sum_take_le (ls : List (List Vt)) (k : Nat) : ((ls.take k).map List.length).sum ≤ (ls.map List.length).sum := by
  have h : ls.take k ++ ls.drop k = ls := List.take_append_drop k ls
  have h2 : (ls.map List.length).sum = ((ls.take k).map List.length).sum + ((ls.drop k).map List.length).sum := by
    conv => lhs; rw [← h]
    rw [List.map_append, List.sum_append]
  omega
def SizeR (ls : List (List Vt)) (w : World) (e : Ending) (w' : World) : Prop := ∃ n : Int, e = .returned (.int .i64 n) ∧ w = w' ∧ 0 ≤ n ∧ (n ≤ 400 ↔ tot ls ≤ 400)

set_option maxHeartbeats 1000000 in
theorem size_any {N : Nat} {w : World} {v : Value} {ls : List (List Vt)} (h : RRV N w v ls) (hl : ls.length ≤ 281474976710656) (hls : ∀ l ∈ ls, l.length ≤ 281474976710656) : Calls Tryd.prog 23 #[v] w (SizeR ls w) := by
  have HR := Lib.hid h
  have HLS := Lib.hid hls
  obtain ⟨A, c, rfl, hr⟩ := h
  clear hls hr
  go_enter Tryd.func23, Tryd.ntmps23
  go_wp2
  go_loop [3, 4] (fun n i => ∃ k : Nat, k ≤ ls.length ∧ i = .int .i64 k ∧ ∃ t : Nat, n = .int .i64 t ∧ t = ls.length + ((ls.take k).map List.length).sum ∧ t ≤ 600000000000000) (fun _ i => ls.length - (Lib.intOf i).toNat)
  case atStart => exact ⟨0, Nat.zero_le _, rfl, ls.length, rfl, by simp, by omega⟩
  case round =>
    obtain ⟨k, hk, rfl, t, rfl, ht, htb⟩ := hrel
    have HT := Lib.hid ht
    clear ht
    by_cases hlt : k < ls.length
    · by_cases h4 : t ≤ 400
      · obtain ⟨A', c', hA, hr⟩ := HR.out
        injection hA with hA1 hA2 hA3
        subst hA1
        subst hA3
        obtain ⟨ad, rfl, hg, hc⟩ := hr (by omega)
        obtain ⟨rv, hck, ⟨A2, c2, rfl, _⟩, _⟩ := hc k hlt
        have hlk := HLS.out ls[k] (List.getElem_mem _)
        have HS := Lib.hid (sum_take ls k hlt)
        obtain ⟨j, hj⟩ : ∃ j, ls[k].length = j := ⟨_, rfl⟩
        rw [hj] at hck hlk
        have HJ := Lib.hid hj
        have h4' : (t : Int) ≤ 400 := by omega
        clear hc hr hj
        go_wp2
        go_round
        case rel => exact ⟨k + 1, by omega, by go_num, t + j, by go_num, by have := HS.out; have := HJ.out; have := HT.out; omega, by omega⟩
        case measure => simp [Lib.intOf]; omega
      · have h4' : (400 : Int) < t := by omega
        have HS := Lib.hid (sum_take_le ls k)
        clear h4
        go_wp2
        go_ret
        exact ⟨t, rfl, rfl, by omega, by have := HS.out; have := HT.out; unfold tot; omega⟩
    · obtain rfl : k = ls.length := by omega
      go_wp2
      go_ret
      refine ⟨t, rfl, rfl, by omega, ?_⟩
      have := HT.out
      rw [List.take_of_length_le (Nat.le_refl _)] at this
      unfold tot
      omega

/-- a row at its place -/
theorem RRV.at' {N : Nat} {w : World} {A : Option Addr} {n c : Nat} {ls : List (List Vt)} (h : RRV N w (.slice A n c) ls) {k : Nat} (hk : k < ls.length) :
    ∃ ad A2 c2, A = some ad ∧ ad.block < N ∧ w.cell? (ad.add k) = some (.slice A2 ls[k].length c2) ∧ VR w (.slice A2 ls[k].length c2) ls[k] ∧ (0 < ls[k].length → ∀ g, (Value.slice A2 ls[k].length c2).ownBlock = some g → g < N) := by
  obtain ⟨A', c', e, h⟩ := h
  injection e with e1 e2 e3
  subst e1
  obtain ⟨ad, h1, h2, h3⟩ := h (by omega)
  obtain ⟨rv, h4, h5, h6⟩ := h3 k hk
  obtain ⟨A2, c2, rfl, h7⟩ := id h5
  exact ⟨ad, A2, c2, h1, h2, h4, h5, h6⟩
theorem RRV.form {N : Nat} {w : World} {v : Value} {ls : List (List Vt)} (h : RRV N w v ls) : ∃ A c, v = .slice A ls.length c := by obtain ⟨A, c, e, _⟩ := h; exact ⟨A, c, e⟩

set_option maxHeartbeats 2000000 in
set_option maxRecDepth 100000 in
theorem sameR_any {N M : Nat} {w : World} {v1 v2 : Value} {S : List (List Vt)} (h1 : RRV N w v1 S) (h2 : RRV M w v2 S) (hN : N ≤ w.heap.size) (hM : M ≤ w.heap.size) (hl : S.length ≤ 1000000) (hls : ∀ l ∈ S, l.length ≤ 1000000) :
    Calls Tryd.prog 26 #[v1, v2] w fun e w' => e = .returned (.bool true) ∧ Below w.heap.size w w' := by
  have H1 := Lib.hid h1
  have H2 := Lib.hid h2
  have HLS := Lib.hid hls
  obtain ⟨A, c, rfl⟩ := h1.form
  obtain ⟨B, d, rfl⟩ := h2.form
  obtain ⟨n, hn⟩ : ∃ n, S.length = n := ⟨_, rfl⟩
  have HLEN := Lib.hid hn
  rw [hn] at H1 H2 hl ⊢
  clear hn h1 h2 hls
  go_enter Tryd.func26, Tryd.ntmps26
  go_wp2_with fail
  go_loopw [5] (fun i wr => ∃ q : Nat, q ≤ n ∧ i = .int .i64 q ∧ Below w.heap.size w wr) (fun i _ => n - (Lib.intOf i).toNat)
  case atStart => exact ⟨0, Nat.zero_le _, rfl, Below.refl _ _⟩
  case round =>
    obtain ⟨q, hq, rfl, hb⟩ := hrel
    have HB := Lib.hid hb
    clear hb
    by_cases hlt : q < n
    · have hqS : q < S.length := by rw [HLEN.out]; exact hlt
      obtain ⟨ad, A2, c2, e1, hb1, hc1, hv1, _⟩ := (H1.out.below (HB.out.mono hN)).at' hqS
      subst e1
      obtain ⟨ad2, B2, d2, e2, hb2, hc2, hv2, _⟩ := (H2.out.below (HB.out.mono hM)).at' hqS
      subst e2
      have hlq := HLS.out S[q] (List.getElem_mem _)
      obtain ⟨x, hx⟩ : ∃ x, S[q] = x := ⟨_, rfl⟩
      rw [hx] at hc1 hc2 hv1 hv2 hlq
      obtain ⟨m, hm⟩ : ∃ m, x.length = m := ⟨_, rfl⟩
      have hcal : ∀ d os, Calls Tryd.prog 22 #[.slice A2 m c2, .slice B2 m d2] (Sort.grow (redrawn wr d) os) fun e w'' => e = .returned (.bool true) ∧ ∃ p : Regrown, w'' = Sort.grow (redrawn wr p.d) p.os := fun d os => Calls.regrown_of (by
        have h := sameV_any (hv1.below (below_regrown wr d os)) (hv2.below (below_regrown wr d os)) (by omega)
        rw [decide_eq_true rfl, hm] at h
        exact h)
      rw [hm] at hc1 hc2
      have k1 := cell_regrown hc1
      have k2 := cell_regrown hc2
      clear hx hm hv1 hv2 hlq hc1 hc2
      go_upto_region 6 with (fail)
      refine wp_region_quiet_below (by kernel_rfl) (by kernel_rfl) ?_
      repeat (first | go_big_quiet_skip | (go_big_quiet_want; go_big_quiet_op; first | go_big_quiet_on | go_big_quiet_call (exact hcal _ _)) | quiet_step (exact hcal _ _))
      refine wpQuiet_nil ?_
      intro _ hw'
      obtain ⟨⟨dq, osq⟩, hw''⟩ := hw'
      subst hw''
      have hbq := below_regrown wr dq osq
      generalize Sort.grow (redrawn wr dq) osq = WT at hbq ⊢
      have HBQ := Lib.hid (HB.out.trans (hbq.mono HB.out.size))
      clear hcal k1 k2 hbq
      go_wp2_with fail
      go_roundw
      case rel => exact ⟨q + 1, by omega, by go_num, HBQ.out⟩
      case measure => simp [Lib.intOf]; omega
    · obtain rfl : n = q := by omega
      go_wp2_with fail
      go_ret
      exact ⟨rfl, HB.out⟩

set_option maxHeartbeats 2000000 in
set_option maxRecDepth 100000 in
theorem within_any {N M : Nat} {w : World} {v1 v2 : Value} {S T : List (List Vt)} (h1 : RRV N w v1 S) (h2 : RRV M w v2 T) (hN : N ≤ w.heap.size) (hM : M ≤ w.heap.size) (hl : S.length ≤ 1000000) (hl2 : T.length ≤ 1000000) (hls : ∀ l ∈ S, l.length ≤ 1000000) (hsub : ∀ x ∈ S, x ∈ T) :
    Calls Tryd.prog 27 #[v1, v2] w fun e w' => e = .returned (.bool true) ∧ Below w.heap.size w w' := by
  have H1 := Lib.hid h1
  have H2 := Lib.hid h2
  have HLS := Lib.hid hls
  have HSUB := Lib.hid hsub
  obtain ⟨A, c, rfl⟩ := h1.form
  obtain ⟨B, d, rfl⟩ := h2.form
  obtain ⟨n, hn⟩ : ∃ n, S.length = n := ⟨_, rfl⟩
  obtain ⟨m, hm⟩ : ∃ m, T.length = m := ⟨_, rfl⟩
  have HLEN := Lib.hid (And.intro hn hm)
  rw [hn] at H1 hl ⊢
  rw [hm] at H2 hl2 ⊢
  clear hn hm h1 h2 hls hsub
  go_enter Tryd.func27, Tryd.ntmps27
  go_wp2_with fail
  go_loopw [5] (fun i wr => ∃ q : Nat, q ≤ n ∧ i = .int .i64 q ∧ Below w.heap.size w wr) (fun i _ => n - (Lib.intOf i).toNat)
  case atStart => exact ⟨0, Nat.zero_le _, rfl, Below.refl _ _⟩
  case round =>
    obtain ⟨q, hq, rfl, hb⟩ := hrel
    have HB := Lib.hid hb
    clear hb
    by_cases hlt : q < n
    · have hqS : q < S.length := by rw [HLEN.out.1]; exact hlt
      obtain ⟨ad, A2, c2, e1, hb1, hc1, hv1, _⟩ := (H1.out.below (HB.out.mono hN)).at' hqS
      subst e1
      have hlq := HLS.out S[q] (List.getElem_mem _)
      have hin := HSUB.out S[q] (List.getElem_mem _)
      obtain ⟨x, hx⟩ : ∃ x, S[q] = x := ⟨_, rfl⟩
      rw [hx] at hc1 hv1 hlq hin
      have HIN := Lib.hid hin
      have HV1 := Lib.hid hv1
      have HC1 := Lib.hid hc1
      have hsz := Nat.le_trans hb1 (Nat.le_trans hN HB.out.size)
      clear hx hv1 hc1 hin
      go_wp2_with fail
      obtain ⟨wo, rfl⟩ : ∃ wo : World, wo = wr := ⟨_, rfl⟩
      go_loopw [6, 7] (fun f i wr => ∃ (k : Nat) (b : Bool), k ≤ m ∧ i = .int .i64 k ∧ f = .bool b ∧ (b = false → x ∉ T.take k) ∧ Below wo.heap.size wo wr) (fun _ i _ => m - (Lib.intOf i).toNat)
      case atStart => exact ⟨0, false, Nat.zero_le _, rfl, rfl, fun _ => by simp, Below.refl _ _⟩
      case round =>
        obtain ⟨k, b, hk, rfl, rfl, hbn, hbb⟩ := hrel
        have HBN := Lib.hid hbn
        have HBB := Lib.hid hbb
        clear hbn hbb
        cases b with
        | true =>
          by_cases hkm : k < m
          · go_wp2_with fail
            go_roundw
            case rel => exact ⟨q + 1, by omega, by go_num, HB.out.trans (HBB.out.mono HB.out.size)⟩
            case measure => simp [Lib.intOf]; omega
          · go_wp2_with fail
            go_roundw
            case rel => exact ⟨q + 1, by omega, by go_num, HB.out.trans (HBB.out.mono HB.out.size)⟩
            case measure => simp [Lib.intOf]; omega
        | false =>
          by_cases hkm : k < m
          · have hkT : k < T.length := by rw [HLEN.out.2]; exact hkm
            obtain ⟨ad2, B2, d2, e2, hb2, hc2, hv2, _⟩ := ((H2.out.below (HB.out.mono hM)).below (HBB.out.mono (Nat.le_trans hM HB.out.size))).at' hkT
            subst e2
            have hc1' := (HBB.out.cell (p := ad.add q) (by rw [block_add]; exact hsz)).trans HC1.out
            have hv1' := HV1.out.below HBB.out
            obtain ⟨y, hy⟩ : ∃ y, T[k] = y := ⟨_, rfl⟩
            rw [hy] at hc2 hv2
            have hcal : ∀ d os, Calls Tryd.prog 22 #[.slice A2 x.length c2, .slice B2 y.length d2] (Sort.grow (redrawn wr d) os) fun e w'' => e = .returned (.bool (decide (x = y))) ∧ ∃ p : Regrown, w'' = Sort.grow (redrawn wr p.d) p.os := fun d os => Calls.regrown_of (sameV_any (hv1'.below (below_regrown wr d os)) (hv2.below (below_regrown wr d os)) (by omega))
            have k1 := cell_regrown hc1'
            have k2 := cell_regrown hc2
            have HY := Lib.hid hy
            have HCAL := Lib.hid hcal
            obtain ⟨lx, hlx⟩ : ∃ lx, x.length = lx := ⟨_, rfl⟩
            obtain ⟨ly, hly⟩ : ∃ ly, y.length = ly := ⟨_, rfl⟩
            rw [hlx] at k1 hcal
            rw [hly] at k2 hcal
            clear hy hv1' hv2 hc1' hc2 hlx hly hlq HCAL
            go_upto_region 8 with (fail)
            refine wp_region_quiet_below (by kernel_rfl) (by kernel_rfl) ?_
            repeat (first | go_big_quiet_skip | (go_big_quiet_want; go_big_quiet_op; first | go_big_quiet_on | go_big_quiet_call (exact hcal _ _)) | quiet_step (exact hcal _ _))
            refine wpQuiet_nil ?_
            intro _ hw'
            obtain ⟨⟨dq, osq⟩, hw''⟩ := hw'
            subst hw''
            have hbq := below_regrown wr dq osq
            generalize Sort.grow (redrawn wr dq) osq = WT at hbq ⊢
            have HBQ := Lib.hid (HBB.out.trans (hbq.mono HBB.out.size))
            clear hcal k1 k2 hbq
            go_wp2_with fail
            go_roundw
            case rel =>
              refine ⟨k + 1, decide (x = y), by omega, by go_num, rfl, fun hd => ?_, HBQ.out⟩
              rw [decide_eq_false_iff_not] at hd
              rw [List.take_succ_eq_append_getElem hkT, List.mem_append, List.mem_singleton]
              rintro (h | h)
              · exact HBN.out rfl h
              · exact hd (h.trans HY.out)
            case measure => simp [Lib.intOf]; omega
          · exfalso
            have : k = m := by omega
            have h := HBN.out rfl
            rw [List.take_of_length_le (by rw [HLEN.out.2]; omega)] at h
            exact h HIN.out
    · obtain rfl : n = q := by omega
      go_wp2_with fail
      go_ret
      exact ⟨rfl, HB.out⟩
end Go.Proofs.YtadjgjbkjhallaaDoor
