/- Props lent, and that they stay as they were. -/
import Derived.Test.YtpoefcpgcojppaaRC
import Derived.Test.YtpoefcpgcojppaaPM
namespace Go.Proofs.Ytpoefcpgcojppaa
open Go.ChangeShapes Go.WideShapes Go.ChangeAt Go.RowKit
set_option linter.unusedVariables false

def mP (i : Nat) : Pt := (⟨#[109]⟩, 0, 8000024 + i, ⟨#[]⟩)
def mksP : List Pt := (List.range 12).map mP
theorem mksP_len : mksP.length = 12 := by simp [mksP]
theorem mksP_get (k : Nat) (h : k < mksP.length) : mksP[k] = mP k := by simp [mksP]
theorem markProp_any (i : Nat) (w : World) (hi : i < 12) : Calls Try.prog 69 #[.int .i64 1, .int .i64 i] w fun e w' => e = .returned (.agg #[.string ⟨#[109]⟩, .int .i64 0, .int .i64 (8000024 + i), .string ⟨#[]⟩]) ∧ Gr w w' := by
  have hg : Gr w (w.alloc (.cells #[.string ⟨#[109]⟩, .int .i64 0, .int .i64 (8000024 + i), .string ⟨#[]⟩] 53)) := (Gr.refl w).alloc _
  have HG := Lib.hid hg
  clear hg
  go_enter Try.func69, Try.ntmps69
  go_wp2_with (go_at_call 79; refine (mark_any _ _ (by omega) (by omega)).mono ?_; rintro e w' ⟨hx, hw⟩; subst hx; subst hw)
  have hn := heap_alloc_new w (.cells #[.string ⟨#[109]⟩, .int .i64 0, .int .i64 (8000024 + i), .string ⟨#[]⟩] 53)
  have d0 := cell_of_row _ _ 0 _ 53 (0, 0) hn
  have d1 := cell_of_row _ _ 1 _ 53 (0, 0) hn
  have d2 := cell_of_row _ _ 2 _ 53 (0, 0) hn
  have d3 := cell_of_row _ _ 3 _ 53 (0, 0) hn
  exact bodyPost_ret (v := .agg #[.string ⟨#[109]⟩, .int .i64 0, .int .i64 (8000024 + i), .string ⟨#[]⟩]) (by simp [results, Try.results69, go_sem, d0, d1, d2, d3]) rfl ⟨rfl, HG.out⟩

def LentP (l : List Pt) (w : World) (e : Ending) (w' : World) : Prop :=
  ∃ g c, e = .returned (.slice (some ⟨g, 0, none⟩) l.length c) ∧ w'.ownsRow w.heap.size 53 4 (.slice (some ⟨g, 0, none⟩) (l.length + 12) c) (l.length + 12) (flatP (l ++ mksP)) ∧ Below w.heap.size w w'

set_option maxHeartbeats 1000000 in
theorem lentP_any (v : Value) (l : List Pt) (w : World) (hv : PR w v l) (hll : l.length ≤ 1000000) : Calls Try.prog 37 #[v] w (LentP l w) := by
  obtain ⟨i9, hi9, hz9, hs9, hb9⟩ := info_parts53
  have HV := Lib.hid hv
  obtain ⟨A, c, rfl, hv2⟩ := hv
  clear hv2
  obtain ⟨M, hM⟩ : ∃ M, M = madeCells (Value.agg #[.string ⟨#[]⟩, .int .i64 0, .int .i64 0, .string ⟨#[]⟩]).cells ((l.length + 12) * i9.size) := ⟨_, rfl⟩
  have hMs : M.size = (l.length + 12) * 4 := by rw [hM, size_madeCells, hs9]
  have eN : ((l.length : Int) + 12).toNat = l.length + 12 := by omega
  have hmk : ∀ W : World, (Instr.makeSlice 22 (.int .i64 0) (.int .i64 ((l.length : Int) + 12))).run Try.prog W = .ok (.slice (some ⟨W.heap.size, 0, none⟩) 0 (l.length + 12)) (W.alloc (.cells M 53)) := fun W => by
    have h := run_make (P := Try.prog) W 22 53 i9 (.agg #[.string ⟨#[]⟩, .int .i64 0, .int .i64 0, .string ⟨#[]⟩]) Try.underlying22 hi9 hz9 .i64 .i64 0 ((l.length : Int) + 12) (by omega) (by omega) (by rw [hb9]; omega) (by omega)
    rw [eN, ← hM] at h
    simpa using h
  have HMS := Lib.hid hMs
  clear hM hMs eN
  go_enter Try.func37, Try.ntmps37
  go_wp2_with (at_builtin; refine wpList_append_pr (v := .slice (some ⟨w.heap.size, 0, none⟩) 0 (l.length + 12)) rfl _ _ rfl Try.underlying22 hi9 hz9 hs9 hb9 rfl (World.ownsRow_made (base := w.heap.size) (size := 4) w M (l.length + 12) (Nat.le_refl _) (by unfold maxLen; omega) HMS.out) rfl (HV.out.below ((Below.refl _ _).alloc (Nat.le_refl _) _)) (by omega) (by simp) ?_; intro mv w1 hown1 hgrow1 hloc1; obtain ⟨Am, cm, rfl⟩ := row_form4 hown1)
  have hB1 : Below w.heap.size w w1 := ((Below.refl _ w).alloc (Nat.le_refl _) _).grown hgrow1 (by simp) (fun k hk => by simp [Value.ownBlock] at hk; omega)
  have HB1 := Lib.hid hB1
  have HOWN1 := Lib.hid hown1
  clear hgrow1 hloc1 hown1 hB1 hmk
  go_loopw [3, 4] (fun v i wr => ∃ k : Nat, k ≤ 12 ∧ i = .int .i64 k ∧ wr.ownsRow w.heap.size 53 4 v (l.length + k) (flatP (l ++ mksP.take k)) ∧ Below w.heap.size w wr) (fun _ i _ => 12 - (Lib.intOf i).toNat)
  case atStart => exact ⟨0, Nat.zero_le _, rfl, by simpa using HOWN1.out, HB1.out⟩
  case round =>
    obtain ⟨k, hk, rfl, hrow, hbe⟩ := hrel
    have HROW := Lib.hid hrow
    have HBE := Lib.hid hbe
    have hzr := hbe.size
    by_cases hlt : k < 12
    · have hk12 : (k : Int) < 12 := by omega
      clear hrow hbe
      go_wp2_with fail
      refine (markProp_any k _ hlt).mono ?_
      rintro e w2 ⟨rfl, hg2⟩
      have HG2 := Lib.hid hg2.below
      have hrow2 := own_below HROW.out HG2.out
      have hz2 := HG2.out.size
      clear hg2
      go_wp2_with (at_builtin; refine wpList_append_pr rfl _ _ rfl (base := w.heap.size) Try.underlying22 hi9 hz9 hs9 hb9 rfl (hrow2.alloc _) rfl (PR.one _ (mP k) 53) (by simp; omega) (by simp; omega) ?_; intro v' w4 hown' hgrow hloc)
      go_roundw
      case rel =>
        refine ⟨k + 1, by omega, by go_num, ?_, ?_⟩
        · rw [List.take_succ_eq_append_getElem (by rw [mksP_len]; exact hlt), mksP_get, ← List.append_assoc, flatP_app, ← Nat.add_assoc]
          exact hown'
        · exact ((HBE.out.trans (HG2.out.mono hzr)).alloc (by omega) _).grown hgrow (by simp; omega) (fun g hg => own_base hrow2 g hg)
      case measure => simp [Lib.intOf]; omega
    · obtain rfl : k = 12 := by omega
      rw [List.take_of_length_le (by rw [mksP_len]; exact Nat.le_refl _)] at hrow
      obtain ⟨g, cap, rfl⟩ := ownsRow_succ (k := l.length + 11) hrow
      have hcap := own_room hrow
      have hc2 : l.length ≤ cap := by omega
      have HR2 := Lib.hid hrow
      clear hrow hbe
      go_wp2_with fail
      go_ret
      exact ⟨g, cap, rfl, HR2.out, HBE.out⟩

set_option maxHeartbeats 2000000 in
theorem keptP_any {w : World} {A1 : Option Addr} {c q : Nat} (l : List Pt) (v : Value) (hrow : PR w (.slice A1 q c) (l ++ mksP)) (hqc : q ≤ c) (hv : PR w v l) (hl : l.length ≤ 100000) :
    Calls Try.prog 55 #[.slice A1 l.length c, v] w fun e w' => e = .returned (.bool true) ∧ Gr w w' := by
  have HV := Lib.hid hv
  have HW := Lib.hid hrow
  have hq12 : q = l.length + 12 := by
    obtain ⟨A', c', e, _⟩ := hrow
    injection e with e1 e2 e3
    rw [List.length_append, mksP_len] at e2
    exact e2
  obtain ⟨A, cl, rfl, hv2⟩ := hv
  obtain ⟨ad1, hA1, _⟩ := PR.at4 hrow (k := 0) (by rw [List.length_append, mksP_len]; omega)
  subst hA1
  obtain ⟨n, hn⟩ : ∃ n, l.length = n := ⟨_, rfl⟩
  have HN := Lib.hid hn
  rw [hn] at hl HV hq12
  have HQ := Lib.hid hq12
  have hnat : ((n : Int) + 12).toNat = q := by omega
  have hci : (n : Int) + 12 ≤ (c : Int) := by omega
  have hq9 : q ≤ 100012 := by omega
  rw [hn]
  clear hn hq12 hv2 hrow
  go_enter Try.func55, Try.ntmps55
  go_wp2_with fail
  clear hnat hci
  go_loopw [6] (fun i wr => ∃ k : Nat, k ≤ q ∧ i = .int .i64 k ∧ Gr w wr) (fun i _ => q - (Lib.intOf i).toNat)
  case atStart => exact ⟨0, Nat.zero_le _, rfl, Gr.refl _⟩
  case round =>
    obtain ⟨k, hk, rfl, hbe⟩ := hrel
    have HBE := Lib.hid hbe
    by_cases hlt : k < q
    · have hkl : k < (l ++ mksP).length := by rw [List.length_append, mksP_len, HN.out, ← HQ.out]; exact hlt
      obtain ⟨adx, hax, hab, g0, g1', g2', g3'⟩ := PR.at4 (HW.out.gr hbe) hkl
      injection hax with hax
      subst hax
      obtain ⟨t, ht⟩ : ∃ t, (l ++ mksP)[k] = t := ⟨_, rfl⟩
      rw [ht] at g0 g1' g2' g3'
      have hk0 : (0 : Int) ≤ (k : Int) := by omega
      have hkq : (k : Int) < (q : Int) := by omega
      obtain ⟨tk, ta, tb, tx⟩ := t
      simp only at g0 g1' g2' g3'
      have hEQ := fun W => eq53_eq W tk ta tb tx
      by_cases hkn : k < n
      · have hk1 : k < l.length := by rw [HN.out]; exact hkn
        obtain ⟨ad, f1, hab2, q0, q1, q2, q3⟩ := PR.at4 (HV.out.gr HBE.out) hk1
        subst f1
        have e : l[k] = (tk, ta, tb, tx) := by rw [← ht, List.getElem_append_left]
        rw [e] at q0 q1 q2 q3
        simp only at q0 q1 q2 q3
        have hd1 : decide (n ≤ k) = false := by simpa using hkn
        have hkni : (k : Int) < (n : Int) := by omega
        clear e ht hbe
        go_upto_region 7 with (fail)
        go_quiet (fail)
        have HBQ := Lib.hid (HBE.out.drewN nq)
        clear q0 q1 q2 q3 g0 g1' g2' g3' hEQ
        generalize wr.drewN nq = WT at *
        go_wp2_with fail
        go_roundw
        case rel => exact ⟨k + 1, by omega, by go_num, HBQ.out⟩
        case measure => simp [Lib.intOf]; omega
      · obtain ⟨j, hj⟩ : ∃ j : Nat, j = k - n := ⟨_, rfl⟩
        have hsub : (k : Int) - (n : Int) = (j : Int) := by omega
        have hj12 : j < 12 := by have := HQ.out; omega
        have hjm : j < mksP.length := by rw [mksP_len]; exact hj12
        have hT : mP j = (tk, ta, tb, tx) := by
          rw [← mksP_get j hjm, ← ht, List.getElem_append_right (by rw [HN.out]; omega)]
          congr 1
          rw [HN.out, hj]
        unfold mP at hT
        simp only [Prod.mk.injEq] at hT
        obtain ⟨t1, t2, t3, t4⟩ := hT
        subst t1 t2 t3 t4
        have hd1 : decide (k < n) = false := by simpa using hkn
        have hd2 : decide (n ≤ k) = true := by simpa using hkn
        clear ht hj hkn hbe
        go_upto_region 7 with (fail)
        have kg0 := cell_grown (a := ad1.add (k * 4)) (by rw [block_add]; exact hab) g0
        have kg1 := cell_grown (a := ⟨(ad1.add (k * 4)).block, (ad1.add (k * 4)).off + 1, none⟩) (by show (ad1.add (k * 4)).block < _; rw [block_add]; exact hab) g1'
        have kg2 := cell_grown (a := ⟨(ad1.add (k * 4)).block, (ad1.add (k * 4)).off + 2, none⟩) (by show (ad1.add (k * 4)).block < _; rw [block_add]; exact hab) g2'
        have kg3 := cell_grown (a := ⟨(ad1.add (k * 4)).block, (ad1.add (k * 4)).off + 3, none⟩) (by show (ad1.add (k * 4)).block < _; rw [block_add]; exact hab) g3'
        have cM : ∀ n os, Calls Try.prog 69 #[.int .i64 1, .int .i64 j] (Sort.grow (wr.drewN n) os) fun e w'' => e = .returned (.agg #[.string ⟨#[109]⟩, .int .i64 0, .int .i64 (8000024 + j), .string ⟨#[]⟩]) ∧ ∃ p : GrownBy, w'' = Sort.grow (wr.drewN p.n) p.os := fun n os => by
          have h := markProp_any j (Sort.grow (wr.drewN n) os) hj12
          unfold Gr at h
          exact Calls.grown_of h
        refine wp_region_quiet_grown mixed (by kernel_rfl) ?_
        repeat (first | go_big_quiet_skip | (go_big_quiet_want; go_big_quiet_op; first | go_big_quiet_on | go_big_quiet_call (exact cM _ _)) | quiet_step (exact cM _ _))
        refine wpQuiet_nil ?_
        intro _ hw'
        obtain ⟨⟨nq, osq⟩, hw''⟩ := hw'
        subst hw''
        have HBQ := Lib.hid (HBE.out.trans (⟨nq, osq, rfl⟩ : Gr wr (Sort.grow (wr.drewN nq) osq)))
        clear cM kg0 kg1 kg2 kg3 g0 g1' g2' g3' hEQ
        generalize Sort.grow (wr.drewN nq) osq = WT at *
        go_wp2_with fail
        go_roundw
        case rel => exact ⟨k + 1, by omega, by go_num, HBQ.out⟩
        case measure => simp [Lib.intOf]; omega
    · obtain rfl : k = q := by omega
      clear hbe
      go_wp2_with fail
      go_ret
      exact ⟨rfl, HBE.out⟩
end Go.Proofs.Ytpoefcpgcojppaa
