/- Texts UN, UO, UP, UQ, TC, TF, TH, one behind the other. -/
import Derived.Test.YtpoefcpgcojppaaM0
import Derived.Test.YtpoefcpgcojppaaM1
import Derived.Test.YtpoefcpgcojppaaM2
import Derived.Test.YtpoefcpgcojppaaM3
import Derived.Test.YtpoefcpgcojppaaM4
import Derived.Test.YtpoefcpgcojppaaM5
import Derived.Test.YtpoefcpgcojppaaM6
import Derived.Test.YtpoefcpgcojppaaM7
import Derived.Test.YtpoefcpgcojppaaM8
import Derived.Test.YtpoefcpgcojppaaM9
import Derived.Lib.QuietBelow
set_option linter.unusedSimpArgs false
namespace Go.Proofs.Ytpoefcpgcojppaa
open Go.ChangeShapes Go.WideShapes Go.ChangeAt Go.RowKit
set_option linter.unusedVariables false

set_option maxHeartbeats 4000000 in
set_option maxRecDepth 100000 in
theorem keptX_any {w : World} {A1 : Option Addr} {c n : Nat} {L l : List Ev} {v2 : Value} (hrow : ER w (.slice A1 (n + 12) c) (L ++ mksX)) (hcap : n + 12 ≤ c) (hL : ∀ p ∈ L, Lp w p) (he : L.map (·.1) = l.map (·.1)) (hv : ER w v2 l) (hl : l.length = n) (hn : n ≤ 100000) (hp : ∀ p ∈ L, p.1.props.length ≤ 100000) :
    Calls Try.prog 33 #[.slice A1 n c, v2] w fun e w' => e = .returned (.bool true) ∧ Below w.heap.size w w' := by
  have HV := Lib.hid hv
  have HW := Lib.hid hrow
  have HL := Lib.hid hL
  have HE := Lib.hid he
  have HP := Lib.hid hp
  have hLn : L.length = n := by have := congrArg List.length he; simp at this; omega
  have HLN := Lib.hid hLn
  have HN := Lib.hid hl
  obtain ⟨A, cl, rfl⟩ := hv.form
  rw [hl] at HV ⊢
  obtain ⟨ad1, hA1, -⟩ := hrow.at4 (k := 0) (by rw [List.length_append, mksX_len]; omega)
  subst hA1
  obtain ⟨q, hq⟩ : ∃ q, q = n + 12 := ⟨_, rfl⟩
  have HQ := Lib.hid hq
  have hnat : ((n : Int) + 12).toNat = q := by omega
  have hci : (n : Int) + 12 ≤ (c : Int) := by omega
  have hq9 : q ≤ 100012 := by omega
  rw [← hq] at HW
  clear hl hv hrow hL he hp hLn hq
  go_enter Try.func33, Try.ntmps33
  go_wp2_with fail
  clear hnat hci
  go_loopw [6] (fun i wr => ∃ k : Nat, k ≤ q ∧ i = .int .i64 k ∧ Below w.heap.size w wr) (fun i _ => q - (Lib.intOf i).toNat)
  case atStart => exact ⟨0, Nat.zero_le _, rfl, Below.refl _ _⟩
  case round =>
    obtain ⟨k, hk, rfl, hbe⟩ := hrel
    have HBE := Lib.hid hbe
    by_cases hlt : k < q
    · have hkl : k < (L ++ mksX).length := by rw [List.length_append, mksX_len, HLN.out, ← HQ.out]; exact hlt
      have hWr := HW.out.below hbe
      obtain ⟨adx, hax, hab, g0, g1', g2', g3', g4'⟩ := hWr.at4 hkl
      injection hax with hax
      subst hax
      have hk0 : (0 : Int) ≤ (k : Int) := by omega
      have hkq : (k : Int) < (q : Int) := by omega
      by_cases hkn : k < n
      · have hk1 : k < l.length := by rw [HN.out]; exact hkn
        have hk2 : k < L.length := by rw [HLN.out]; exact hkn
        have hVr := HV.out.below hbe
        obtain ⟨ad, f1, hab2, q0, q1, q2, q3, q4⟩ := hVr.at4 hk1
        subst f1
        have hxy : (L[k]'hk2).1 = (l[k]'hk1).1 := by
          have h := congrArg (fun z => z[k]?) HE.out
          simpa [hk1, hk2] using h
        have e : (L ++ mksX)[k]'hkl = L[k]'hk2 := List.getElem_append_left hk2
        rw [e] at g0 g1' g2' g3' g4'
        rw [← hxy] at q0 q1 q2 q3
        have hp2 := hVr.each _ (List.getElem_mem hk1)
        rw [← hxy] at hp2
        obtain ⟨Ax, cx, hx1, hx2, hx3⟩ := (HL.out _ (List.getElem_mem hk2)).below hbe
        have hpl := HP.out _ (List.getElem_mem hk2)
        rw [hx1] at g4'
        obtain ⟨x, hx⟩ : ∃ x, (L[k]'hk2).1 = x := ⟨_, rfl⟩
        rw [hx] at g0 g1' g2' g3' g4' q0 q1 q2 q3 hp2 hx2 hx3 hpl
        obtain ⟨pw, hpw⟩ : ∃ x, (l[k]'hk1).2 = x := ⟨_, rfl⟩
        rw [hpw] at q4 hp2
        have cK := fun dd os => Calls.regrown_of (by have h := (keptE_any (x := x) (hx2.below (below_regrown wr dd os)) (by omega) hx3 (hp2.below (below_regrown wr dd os)) hpl).mono (fun e w' (h : e = .returned (.bool true) ∧ Gr (Sort.grow (redrawn wr dd) os) w') => (⟨h.1, h.2.below⟩ : _ ∧ Below _ _ w')); unfold Ed.v at h; exact h)
        obtain ⟨lenx, hlx⟩ : ∃ m, x.props.length = m := ⟨_, rfl⟩
        rw [hlx] at g4' cK
        have q0 := cell_regrown q0; have q1 := cell_regrown q1; have q2 := cell_regrown q2; have q3 := cell_regrown q3; have q4 := cell_regrown q4
        have g0 := cell_regrown g0; have g1' := cell_regrown g1'; have g2' := cell_regrown g2'; have g3' := cell_regrown g3'; have g4' := cell_regrown g4'
        have hd1 : decide (n ≤ k) = false := by simpa using hkn
        have hkni : (k : Int) < (n : Int) := by omega
        clear e hxy hx hpw hx1 hx2 hx3 hp2 hpl hlx hVr hWr hbe
        go_upto_region 7 with (fail)
        refine wp_region_quiet_below (by kernel_rfl) (by kernel_rfl) ?_
        repeat (first | go_big_quiet_skip | (go_big_quiet_want; go_big_quiet_op; first | go_big_quiet_on | go_big_quiet_call (exact cK _ _)) | quiet_step (exact cK _ _))
        refine wpQuiet_nil ?_
        intro _ hw'
        obtain ⟨⟨dq, osq⟩, hw''⟩ := hw'
        subst hw''
        have HB2 := Lib.hid (HBE.out.trans ((below_regrown wr dq osq).mono HBE.out.size))
        clear cK q0 q1 q2 q3 q4 g0 g1' g2' g3' g4'
        generalize Sort.grow (redrawn wr dq) osq = WT at HB2 ⊢
        go_wp2_with fail
        go_roundw
        case rel => exact ⟨k + 1, by omega, by go_num, HB2.out⟩
        case measure => simp [Lib.intOf]; omega
      · obtain ⟨j, hj⟩ : ∃ j : Nat, j = k - n := ⟨_, rfl⟩
        have hsub : (k : Int) - (n : Int) = (j : Int) := by omega
        have hj12 : j < 12 := by have := HQ.out; omega
        have hjm : j < mksX.length := by rw [mksX_len]; exact hj12
        have hT : (L ++ mksX)[k]'hkl = mX j := by
          rw [List.getElem_append_right (by rw [HLN.out]; omega), ← mksX_get j hjm]
          congr 1
          rw [HLN.out, hj]
        rw [hT] at g0 g1' g2' g3' g4'
        unfold mX at g0 g1' g2' g3' g4'
        simp only at g0 g1' g2' g3' g4'
        have hd1 : decide (k < n) = false := by simpa using hkn
        have hd2 : decide (n ≤ k) = true := by simpa using hkn
        have g0 := cell_regrown g0; have g1' := cell_regrown g1'; have g2' := cell_regrown g2'; have g3' := cell_regrown g3'; have g4' := cell_regrown g4'
        have cM := fun dd os => Calls.regrown_of ((markX_any j (Sort.grow (redrawn wr dd) os) hj12).mono (fun e w' (h : _ ∧ Gr (Sort.grow (redrawn wr dd) os) w') => (⟨h.1, h.2.below⟩ : _ ∧ Below _ _ w')))
        have cS := fun dd os => Calls.regrown_of (by have h := (sameE_yes (e := ⟨⟨#[]⟩, ⟨#[]⟩, ⟨#[]⟩, 8000024 + j, []⟩) (PR.nil (Sort.grow (redrawn wr dd) os) none 0) (PR.nil (Sort.grow (redrawn wr dd) os) none 0) (Nat.zero_le _)).mono (fun e w' (h : e = .returned (.bool true) ∧ Gr (Sort.grow (redrawn wr dd) os) w') => (⟨h.1, h.2.below⟩ : _ ∧ Below _ _ w')); unfold Ed.v at h; exact h)
        simp only at cS
        clear hT hj hkn hbe hWr
        go_upto_region 7 with (fail)
        refine wp_region_quiet_below (by kernel_rfl) (by kernel_rfl) ?_
        repeat (first | go_big_quiet_skip | (go_big_quiet_want; go_big_quiet_op; first | go_big_quiet_on | go_big_quiet_call (first | exact cM _ _ | exact cS _ _)) | quiet_step (first | exact cM _ _ | exact cS _ _))
        refine wpQuiet_nil ?_
        intro _ hw'
        obtain ⟨⟨dq, osq⟩, hw''⟩ := hw'
        subst hw''
        have HB2 := Lib.hid (HBE.out.trans ((below_regrown wr dq osq).mono HBE.out.size))
        clear cM cS g0 g1' g2' g3' g4'
        generalize Sort.grow (redrawn wr dq) osq = WT at HB2 ⊢
        go_wp2_with fail
        go_roundw
        case rel => exact ⟨k + 1, by omega, by go_num, HB2.out⟩
        case measure => simp [Lib.intOf]; omega
    · obtain rfl : k = q := by omega
      clear hbe
      go_wp2_with fail
      go_ret
      exact ⟨rfl, HBE.out⟩
end Go.Proofs.Ytpoefcpgcojppaa

namespace Go.Proofs.Ytpoefcpgcojppaa
open Go.ChangeShapes Go.WideShapes Go.ChangeAt Go.RowKit
set_option linter.unusedVariables false

/-- blocks below N as they were; each other one still of its type, of its size; none but rows of props changed -/
structure Ov (N : Nat) (t0 : TypeId) (w w' : World) : Prop where
  bl : Below N w w'
  sh : ∀ (g : Nat) (cur : Array Value) (t : TypeId), w.heap[g]? = some (.cells cur t (0, 0)) → ∃ cur' : Array Value, w'.heap[g]? = some (.cells cur' t (0, 0)) ∧ cur'.size = cur.size ∧ (t ≠ t0 → cur' = cur)
theorem Ov.refl (N : Nat) (t0 : TypeId) (w : World) : Ov N t0 w w := ⟨Below.refl _ _, fun g cur t h => ⟨cur, h, rfl, fun _ => rfl⟩⟩
theorem Ov.trans {N : Nat} {t0 : TypeId} {a b c : World} (h : Ov N t0 a b) (k : Ov N t0 b c) : Ov N t0 a c := by
  refine ⟨h.bl.trans k.bl, fun g cur t hg => ?_⟩
  obtain ⟨c1, h1, h2, h3⟩ := h.sh g cur t hg
  obtain ⟨c2, k1, k2, k3⟩ := k.sh g c1 t h1
  exact ⟨c2, k1, k2.trans h2, fun ht => (k3 ht).trans (h3 ht)⟩
theorem Ov.of_below {N : Nat} {t0 : TypeId} {w w' : World} (h : Below w.heap.size w w') (hN : N ≤ w.heap.size) : Ov N t0 w w' :=
  ⟨h.mono hN, fun g cur t hg => ⟨cur, heap_keep h hg, rfl, fun _ => rfl⟩⟩
theorem Ov.set {N g i : Nat} {t0 : TypeId} {w : World} {cur : Array Value} (hN : N ≤ g) (hg : w.heap[g]? = some (.cells cur t0 (0, 0))) (v : Value) : Ov N t0 w (w.setCell ⟨g, i, none⟩ v) := by
  refine ⟨(Below.refl N w).setCell (p := ⟨g, i, none⟩) hN v, fun g' cur' t hg' => ?_⟩
  by_cases e : g' = g
  · subst e
    rw [hg] at hg'
    injection hg' with hg'
    injection hg' with e1 e2
    subst e1 e2
    exact ⟨_, Go.Joins.block_setCell hg v, by simp, fun h => absurd rfl h⟩
  · exact ⟨cur', ((set1_keep w g i v).block g' (Array.getElem?_eq_some_iff.1 hg').1 e).trans hg', rfl, fun _ => rfl⟩

theorem mark2_any (i : Nat) (w : World) (h1 : i ≤ 1000000) : Calls Try.prog 79 #[.int .i64 2, .int .i64 i] w fun e w' => e = .returned (.int .i64 (9000027 + i)) ∧ w = w' := by
  have hwr : IntKind.i64.wrap (9000027 + (i : Int)) = 9000027 + (i : Int) := by rw [IntKind.wrap_i64]; omega
  go_enter Try.func79, Try.ntmps79
  go_wp2
  go_ret
  exact ⟨rfl, rfl⟩
theorem markP2_any (i : Nat) (w : World) (hi : i ≤ 1000000) : Calls Try.prog 69 #[.int .i64 2, .int .i64 i] w fun e w' => e = .returned (.agg #[.string ⟨#[109]⟩, .int .i64 0, .int .i64 (9000027 + i), .string ⟨#[]⟩]) ∧ Gr w w' := by
  have HG := Lib.hid (show Gr w (w.alloc (.cells #[.string ⟨#[109]⟩, .int .i64 0, .int .i64 (9000027 + i), .string ⟨#[]⟩] 53)) from (Gr.refl w).alloc _)
  go_enter Try.func69, Try.ntmps69
  go_wp2_with (go_at_call 79; refine (mark2_any _ _ hi).mono ?_; rintro e w' ⟨hx, hw⟩; subst hx; subst hw)
  have hn := heap_alloc_new w (.cells #[.string ⟨#[109]⟩, .int .i64 0, .int .i64 (9000027 + i), .string ⟨#[]⟩] 53)
  have d0 := cell_of_row _ _ 0 _ 53 (0, 0) hn
  have d1 := cell_of_row _ _ 1 _ 53 (0, 0) hn
  have d2 := cell_of_row _ _ 2 _ 53 (0, 0) hn
  have d3 := cell_of_row _ _ 3 _ 53 (0, 0) hn
  exact bodyPost_ret (v := .agg #[.string ⟨#[109]⟩, .int .i64 0, .int .i64 (9000027 + i), .string ⟨#[]⟩]) (by simp [results, Try.results69, go_sem, d0, d1, d2, d3]) rfl ⟨rfl, HG.out⟩
theorem markX2_any (i : Nat) (w : World) (hi : i ≤ 1000000) : Calls Try.prog 63 #[.int .i64 2, .int .i64 i] w fun e w' => e = .returned (.agg #[.string ⟨#[]⟩, .string ⟨#[]⟩, .string ⟨#[]⟩, .int .i64 (9000027 + i), .slice none 0 0]) ∧ Gr w w' := by
  have HG := Lib.hid (show Gr w (w.alloc (.cells #[.string ⟨#[]⟩, .string ⟨#[]⟩, .string ⟨#[]⟩, .int .i64 (9000027 + i), .slice none 0 0] 24)) from (Gr.refl w).alloc _)
  go_enter Try.func63, Try.ntmps63
  go_wp2_with (go_at_call 79; refine (mark2_any _ _ hi).mono ?_; rintro e w' ⟨hx, hw⟩; subst hx; subst hw)
  have hn := heap_alloc_new w (.cells #[.string ⟨#[]⟩, .string ⟨#[]⟩, .string ⟨#[]⟩, .int .i64 (9000027 + i), .slice none 0 0] 24)
  have d0 := cell_of_row _ _ 0 _ 24 (0, 0) hn
  have d1 := cell_of_row _ _ 1 _ 24 (0, 0) hn
  have d2 := cell_of_row _ _ 2 _ 24 (0, 0) hn
  have d3 := cell_of_row _ _ 3 _ 24 (0, 0) hn
  have d4 := cell_of_row _ _ 4 _ 24 (0, 0) hn
  exact bodyPost_ret (v := .agg #[.string ⟨#[]⟩, .string ⟨#[]⟩, .string ⟨#[]⟩, .int .i64 (9000027 + i), .slice none 0 0]) (by simp [results, Try.results63, go_sem, d0, d1, d2, d3, d4]) rfl ⟨rfl, HG.out⟩

theorem cell_some {w : World} {g j : Nat} {cur : Array Value} {t : TypeId} (h : w.heap[g]? = some (.cells cur t (0, 0))) (hj : j < cur.size) : ∃ y, w.cell? ⟨g, j, none⟩ = some y := by
  refine ⟨cur[j], ?_⟩
  rw [cell_of_row w g j cur t (0, 0) h]
  simp [hj]

theorem overP_nil (w : World) : Calls Try.prog 87 #[.slice none 0 0] w fun e w' => e = .returned (.tuple #[]) ∧ w = w' := by
  go_enter Try.func87, Try.ntmps87
  go_wp2_with fail
  refine wp_loop_rounds 1 ?_
  rw [rounds_succ]
  go_wp2_with fail
  go_end0
  exact ⟨rfl, rfl⟩

set_option maxHeartbeats 2000000 in
set_option maxRecDepth 100000 in
theorem overP_any (N g n c : Nat) (cur : Array Value) (w : World) (hN : N ≤ g) (hg : w.heap[g]? = some (.cells cur 53 (0, 0))) (hc : cur.size = c * 4) (hnc : n ≤ c) (hn : n ≤ 100000) (hcm : c ≤ maxLen) (hNw : N ≤ w.heap.size) :
    Calls Try.prog 87 #[.slice (some ⟨g, 0, none⟩) n c] w fun e w' => e = .returned (.tuple #[]) ∧ Ov N 53 w w' := by
  unfold maxLen at hcm
  have HG := Lib.hid hg
  have HC := Lib.hid hc
  have HNW := Lib.hid hNw
  clear hg hc hNw
  obtain ⟨q, hq⟩ : ∃ q, q = min c (n + 12) := ⟨_, rfl⟩
  have hmin : min (c : Int) ((n : Int) + 12) = (q : Int) := by omega
  have hqc : q ≤ c := by omega
  have hq9 : q ≤ 100012 := by omega
  clear hq
  go_enter Try.func87, Try.ntmps87
  go_wp2_with fail
  clear hmin
  go_loopw [3] (fun i wr => ∃ k : Nat, k ≤ q ∧ i = .int .i64 k ∧ Ov N 53 w wr) (fun i _ => q - (Lib.intOf i).toNat)
  case atStart => exact ⟨0, Nat.zero_le _, rfl, Ov.refl _ _ _⟩
  case round =>
    obtain ⟨k, hk, rfl, hov⟩ := hrel
    have HOV := Lib.hid hov
    clear hov
    by_cases hlt : k < q
    · go_wp2_with fail
      refine (markP2_any k _ (by omega)).mono ?_
      rintro e w2 ⟨rfl, hg2⟩
      have hb2 := hg2.below
      obtain ⟨c1, hc1, hs1, _⟩ := HOV.out.sh g cur 53 HG.out
      have h2 := heap_keep hb2 hc1
      have hsz : k * 4 + 4 ≤ c1.size := by rw [hs1, HC.out]; omega
      obtain ⟨y0, q0⟩ := cell_some (j := k * 4) h2 (by omega)
      obtain ⟨y1, q1⟩ := cell_some (j := k * 4 + 1) h2 (by omega)
      obtain ⟨y2, q2⟩ := cell_some (j := k * 4 + 2) h2 (by omega)
      obtain ⟨y3, q3⟩ := cell_some (j := k * 4 + 3) h2 (by omega)
      have f0 := Go.Joins.unfrozen_of_block h2 (k * 4)
      have f1 := Go.Joins.unfrozen_of_block h2 (k * 4 + 1)
      have f2 := Go.Joins.unfrozen_of_block h2 (k * 4 + 2)
      have f3 := Go.Joins.unfrozen_of_block h2 (k * 4 + 3)
      have HB2 := Lib.hid hb2
      have H2 := Lib.hid h2
      clear hb2 hg2 hs1 hsz
      go_wp2_with fail
      have HF := Lib.hid (show Ov N 53 w ((((w2.setCell ⟨g, k * 4, none⟩ (.string ⟨#[109]⟩)).setCell ⟨g, k * 4 + 1, none⟩ (.int .i64 0)).setCell ⟨g, k * 4 + 2, none⟩ (.int .i64 (9000027 + k))).setCell ⟨g, k * 4 + 3, none⟩ (.string ⟨#[]⟩)) from
        ((((HOV.out.trans (Ov.of_below HB2.out (Nat.le_trans HNW.out HOV.out.bl.size))).trans (Ov.set hN H2.out _)).trans (Ov.set hN (Go.Joins.block_setCell H2.out _) _)).trans (Ov.set hN (Go.Joins.block_setCell (Go.Joins.block_setCell H2.out _) _) _)).trans (Ov.set hN (Go.Joins.block_setCell (Go.Joins.block_setCell (Go.Joins.block_setCell H2.out _) _) _) _))
      go_roundw
      case rel => exact ⟨k + 1, by omega, by go_num, HF.out⟩
      case measure => simp [Lib.intOf]; omega
    · obtain rfl : k = q := by omega
      go_wp2_with fail
      go_end0
      exact ⟨rfl, HOV.out⟩
end Go.Proofs.Ytpoefcpgcojppaa

namespace Go.Proofs.Ytpoefcpgcojppaa
open Go.ChangeShapes Go.WideShapes Go.ChangeAt Go.RowKit
set_option linter.unusedVariables false

/-- a row of props that may be written -/
def Sh53 (w : World) (N : Nat) (v : Value) (n : Nat) : Prop := (v = .slice none 0 0 ∧ n = 0) ∨ ∃ (g c : Nat) (cur : Array Value), v = .slice (some ⟨g, 0, none⟩) n c ∧ N ≤ g ∧ w.heap[g]? = some (.cells cur 53 (0, 0)) ∧ n ≤ c ∧ c ≤ maxLen ∧ cur.size = c * 4
theorem Sh53.of {w : World} {N : Nat} {p : Ev} (h : Own53 w N p) : Sh53 w N p.2 p.1.props.length := by
  rcases h.2 with h | ⟨g, c, cur, h1, h2, h3, h4, h5, h6, _⟩
  · exact .inl h
  · exact .inr ⟨g, c, cur, h1, h2, h3, h4, h5, h6⟩
theorem Sh53.ov {w w' : World} {N n : Nat} {v : Value} {t : TypeId} (h : Sh53 w N v n) (k : Ov N t w w') : Sh53 w' N v n := by
  rcases h with h | ⟨g, c, cur, h1, h2, h3, h4, h5, h6⟩
  · exact .inl h
  · obtain ⟨cur', k1, k2, _⟩ := k.sh g cur 53 h3
    exact .inr ⟨g, c, cur', h1, h2, k1, h4, h5, k2.trans h6⟩
theorem overP_sh {w : World} {N n : Nat} {v : Value} (h : Sh53 w N v n) (hn : n ≤ 100000) (hNw : N ≤ w.heap.size) : Calls Try.prog 87 #[v] w fun e w' => e = .returned (.tuple #[]) ∧ Ov N 53 w w' := by
  rcases h with ⟨rfl, _⟩ | ⟨g, c, cur, rfl, h2, h3, h4, h5, h6⟩
  · refine (overP_nil w).mono ?_
    rintro e w' ⟨rfl, rfl⟩
    exact ⟨rfl, Ov.refl _ _ _⟩
  · exact overP_any N g n c cur w h2 h3 h6 h4 hn h5 hNw
theorem Sh53.form {w : World} {N n : Nat} {v : Value} (h : Sh53 w N v n) : ∃ A c, v = .slice A n c := by
  rcases h with ⟨rfl, rfl⟩ | ⟨g, c, cur, rfl, _⟩
  · exact ⟨_, _, rfl⟩
  · exact ⟨_, _, rfl⟩

theorem overE_any {w : World} {N : Nat} {x : Ed} {v : Value} (h : Sh53 w N v x.props.length) (hn : x.props.length ≤ 100000) (hNw : N ≤ w.heap.size) : Calls Try.prog 67 #[x.v v] w fun e w' => e = .returned (.tuple #[]) ∧ Ov N 53 w w' := by
  obtain ⟨A, c, rfl⟩ := h.form
  unfold Ed.v
  have hb : Below w.heap.size w (w.alloc (.cells #[.string x.src, .string x.dst, .string x.lab, .int .i64 x.time, .slice A x.props.length c] 24)) := (Below.refl _ w).alloc (Nat.le_refl _) _
  have HO := Lib.hid (Ov.of_below (t0 := 53) hb hNw)
  have HP := Lib.hid (overP_sh (h.ov HO.out) hn (Nat.le_trans hNw hb.size))
  clear h hb
  obtain ⟨s, d, lb, t, ps⟩ := x
  simp only at *
  go_enter Try.func67, Try.ntmps67
  go_wp2_with (go_at_call 87; refine HP.out.mono ?_; rintro z w2 ⟨rfl, hw⟩)
  go_end0
  exact ⟨rfl, HO.out.trans hw⟩

theorem Ov.own {N base n sz : Nat} {t0 t : TypeId} {w w' : World} {v : Value} {xs : List Value} (h : Ov N t0 w w') (k : w.ownsRow base t sz v n xs) (ht : t ≠ t0) : w'.ownsRow base t sz v n xs := by
  refine ⟨k.1, ?_⟩
  rcases k.2 with hn | ⟨g, cap, cur, hv, hb, hh, rest⟩
  · exact .inl hn
  · obtain ⟨cur', h1, h2, h3⟩ := h.sh g cur t hh
    rw [h3 ht] at h1
    exact .inr ⟨g, cap, cur, hv, hb, h1, rest⟩
theorem own_cells5 {w : World} {base n c g : Nat} {l : List Ev} (h : w.ownsRow base 24 5 (.slice (some ⟨g, 0, none⟩) n c) n (flatX l)) {k : Nat} (hk : k < l.length) :
    w.cell? ⟨g, k * 5, none⟩ = some (.string l[k].1.src) ∧ w.cell? ⟨g, k * 5 + 1, none⟩ = some (.string l[k].1.dst) ∧ w.cell? ⟨g, k * 5 + 2, none⟩ = some (.string l[k].1.lab) ∧ w.cell? ⟨g, k * 5 + 3, none⟩ = some (.int .i64 l[k].1.time) ∧ w.cell? ⟨g, k * 5 + 4, none⟩ = some l[k].2 := by
  obtain ⟨f0, f1, f2, f3, f4⟩ := flatX_at l k hk
  have ea : ∀ j, (⟨g, 0, none⟩ : Addr).add j = ⟨g, j, none⟩ := fun j => by unfold Addr.add; split <;> simp_all
  have hc := fun j u hj => h.cells (g := g) rfl j u hj
  simp only [ea] at hc
  exact ⟨hc _ _ f0, hc _ _ f1, hc _ _ f2, hc _ _ f3, hc _ _ f4⟩

theorem overX_nil (w : World) : Calls Try.prog 34 #[.slice none 0 0] w fun e w' => e = .returned (.tuple #[]) ∧ w = w' := by
  go_enter Try.func34, Try.ntmps34
  go_wp2_with fail
  refine wp_loop_rounds 1 ?_
  rw [rounds_succ]
  go_wp2_with fail
  refine wp_loop_rounds 1 ?_
  rw [rounds_succ]
  go_wp2_with fail
  go_end0
  exact ⟨rfl, rfl⟩

set_option maxHeartbeats 2000000 in
set_option maxRecDepth 100000 in
theorem overX_any {w : World} {N n : Nat} {v : Value} {l : List Ev} (h : w.ownsRow N 24 5 v n (flatX l)) (hs : ∀ p ∈ l, Own53 w N p) (hn : n ≤ 100000) (hp : ∀ p ∈ l, p.1.props.length ≤ 100000) (hNw : N ≤ w.heap.size) :
    Calls Try.prog 34 #[v] w fun e w' => e = .returned (.tuple #[]) ∧ Below N w w' := by
  have hll : l.length = n := by have := h.1; rw [flatX_len] at this; omega
  rcases h.2 with ⟨rfl, rfl⟩ | ⟨g, c, cur, rfl, hNg, hh, hnc, hcm, hsz, _⟩
  · refine (overX_nil w).mono ?_
    rintro e w' ⟨rfl, rfl⟩
    exact ⟨rfl, Below.refl _ _⟩
  · have H := Lib.hid h
    have HS := Lib.hid (fun p hp => Sh53.of (hs p hp))
    have HP := Lib.hid hp
    have HL := Lib.hid hll
    have HG := Lib.hid hh
    have HC := Lib.hid hsz
    have HNW := Lib.hid hNw
    unfold maxLen at hcm
    obtain ⟨q, hq⟩ : ∃ q, q = min c (n + 12) := ⟨_, rfl⟩
    have hmin : min (c : Int) ((n : Int) + 12) = (q : Int) := by omega
    have hqc : q ≤ c := by omega
    have hq9 : q ≤ 100012 := by omega
    clear hq h hs hp hll hh hsz hNw
    go_enter Try.func34, Try.ntmps34
    go_wp2_with fail
    go_loopw [2] (fun i wr => ∃ k : Nat, k ≤ n ∧ i = .int .i64 k ∧ Ov N 53 w wr) (fun i _ => n - (Lib.intOf i).toNat)
    case atStart => exact ⟨0, Nat.zero_le _, rfl, Ov.refl _ _ _⟩
    case round =>
      obtain ⟨k, hk, rfl, hov⟩ := hrel
      have HOV := Lib.hid hov
      clear hov
      by_cases hlt : k < n
      · have e1 : k < l.length := by rw [HL.out]; exact hlt
        obtain ⟨q0, q1, q2, q3, q4⟩ := own_cells5 (HOV.out.own H.out (by decide)) e1
        have hsh := (HS.out _ (List.getElem_mem e1)).ov HOV.out
        have hpl := HP.out _ (List.getElem_mem e1)
        have F67 := Lib.hid (overE_any (x := (l[k]'e1).1) hsh hpl (Nat.le_trans HNW.out HOV.out.bl.size))
        unfold Ed.v at F67
        obtain ⟨Ap, cp, hpv⟩ := hsh.form
        rw [hpv] at q4 F67
        generalize (l[k]'e1).1 = x at q0 q1 q2 q3 q4 F67
        obtain ⟨s, d, lb, t, ps⟩ := x
        simp only at q0 q1 q2 q3 q4 F67
        generalize ps.length = m at q4 F67
        clear hsh hpl hpv
        go_wp2_with (go_at_call 67; refine F67.out.mono ?_; clear F67; rintro z w2 ⟨hz, hw⟩; subst hz; have HO2 := Lib.hid (HOV.out.trans hw); clear hw q0 q1 q2 q3 q4)
        go_roundw
        case rel => exact ⟨k + 1, by omega, by go_num, HO2.out⟩
        case measure => simp [Lib.intOf]; omega
      · obtain rfl : k = n := by omega
        obtain ⟨cur1, hg1, hs1, hc1⟩ := HOV.out.sh g cur 24 HG.out
        have HG1 := Lib.hid hg1
        have HS1 := Lib.hid (hs1.trans HC.out)
        have HSZ1 := Lib.hid (Nat.le_trans HNW.out HOV.out.bl.size)
        clear hg1 hs1 hc1
        go_wp2_with fail
        clear hmin
        obtain ⟨W1, hW1⟩ : ∃ W, W = wr := ⟨_, rfl⟩
        subst hW1
        go_loopw [4] (fun i wr => ∃ k : Nat, k ≤ q ∧ i = .int .i64 k ∧ Ov N 24 W1 wr) (fun i _ => q - (Lib.intOf i).toNat)
        case atStart => exact ⟨0, Nat.zero_le _, rfl, Ov.refl _ _ _⟩
        case round =>
          obtain ⟨j, hj, rfl, hov⟩ := hrel
          have HOW := Lib.hid hov
          clear hov
          by_cases hlt2 : j < q
          · go_wp2_with fail
            refine (markX2_any j _ (by omega)).mono ?_
            rintro e w2 ⟨rfl, hg2⟩
            have hb2 := hg2.below
            obtain ⟨c1, hc1, hs1, _⟩ := HOW.out.sh g cur1 24 HG1.out
            have h2 := heap_keep hb2 hc1
            have hsz : j * 5 + 5 ≤ c1.size := by rw [hs1, HS1.out]; omega
            obtain ⟨y0, q0⟩ := cell_some (j := j * 5) h2 (by omega)
            obtain ⟨y1, q1⟩ := cell_some (j := j * 5 + 1) h2 (by omega)
            obtain ⟨y2, q2⟩ := cell_some (j := j * 5 + 2) h2 (by omega)
            obtain ⟨y3, q3⟩ := cell_some (j := j * 5 + 3) h2 (by omega)
            obtain ⟨y4, q4⟩ := cell_some (j := j * 5 + 4) h2 (by omega)
            have f0 := Go.Joins.unfrozen_of_block h2 (j * 5)
            have f1 := Go.Joins.unfrozen_of_block h2 (j * 5 + 1)
            have f2 := Go.Joins.unfrozen_of_block h2 (j * 5 + 2)
            have f3 := Go.Joins.unfrozen_of_block h2 (j * 5 + 3)
            have f4 := Go.Joins.unfrozen_of_block h2 (j * 5 + 4)
            have HB2 := Lib.hid hb2
            have H2 := Lib.hid h2
            clear hb2 hg2 hs1 hsz
            go_wp2_with fail
            have HF := Lib.hid (show Ov N 24 W1 (((((w2.setCell ⟨g, j * 5, none⟩ (.string ⟨#[]⟩)).setCell ⟨g, j * 5 + 1, none⟩ (.string ⟨#[]⟩)).setCell ⟨g, j * 5 + 2, none⟩ (.string ⟨#[]⟩)).setCell ⟨g, j * 5 + 3, none⟩ (.int .i64 (9000027 + j))).setCell ⟨g, j * 5 + 4, none⟩ (.slice none 0 0)) from
              (((((HOW.out.trans (Ov.of_below HB2.out (Nat.le_trans HSZ1.out HOW.out.bl.size))).trans (Ov.set hNg H2.out _)).trans (Ov.set hNg (Go.Joins.block_setCell H2.out _) _)).trans (Ov.set hNg (Go.Joins.block_setCell (Go.Joins.block_setCell H2.out _) _) _)).trans (Ov.set hNg (Go.Joins.block_setCell (Go.Joins.block_setCell (Go.Joins.block_setCell H2.out _) _) _) _)).trans (Ov.set hNg (Go.Joins.block_setCell (Go.Joins.block_setCell (Go.Joins.block_setCell (Go.Joins.block_setCell H2.out _) _) _) _) _))
            go_roundw
            case rel => exact ⟨j + 1, by omega, by go_num, HF.out⟩
            case measure => simp [Lib.intOf]; omega
          · obtain rfl : j = q := by omega
            go_wp2_with fail
            go_end0
            exact ⟨rfl, HOV.out.bl.trans HOW.out.bl⟩
end Go.Proofs.Ytpoefcpgcojppaa

namespace Go.Proofs.Ytpoefcpgcojppaa
open Go.ChangeShapes Go.WideShapes Go.ChangeAt Go.RowKit
set_option linter.unusedVariables false

theorem sumP_mem {l : List Ev} {p : Ev} (h : p ∈ l) : p.1.props.length ≤ sumP l := by
  unfold sumP
  induction l with
  | nil => cases h
  | cons a l ih =>
    rw [List.map_cons, List.sum_cons]
    rcases List.mem_cons.1 h with rfl | h
    · omega
    · have := ih h
      omega
theorem ER.lent {w : World} {g c n N : Nat} {L : List Ev} (h : w.ownsRow N 24 5 (.slice (some ⟨g, 0, none⟩) (n + 12) c) (n + 12) (flatX (L ++ mksX))) (hL : ∀ p ∈ L, Lp w p) : ER w (.slice (some ⟨g, 0, none⟩) (n + 12) c) (L ++ mksX) :=
  ER.of_own h fun p hp => by
    rcases List.mem_append.1 hp with hp | hp
    · exact (hL p hp).pr
    · obtain ⟨k, _, rfl⟩ := List.mem_map.1 hp
      exact PR.nil _ _ _

set_option maxHeartbeats 4000000 in
set_option maxRecDepth 100000 in
theorem sorts_any {w : World} {v : Value} {l : List Ev} (h : ER w v l) (hl : l.length ≤ 281474976710656) (hp : ∀ p ∈ l, p.1.props.length ≤ 281474976710656) :
    Calls Try.prog 5 #[v] w fun e w' => e = .returned (.bool true) ∧ Below w.heap.size w w' := by
  have H := Lib.hid h
  have HP := Lib.hid hp
  have f9 := size_sum h hl hp
  unfold SizS at f9
  have F9 := Lib.hid f9
  obtain ⟨A0, c0, rfl⟩ := h.form
  obtain ⟨n, hn⟩ : ∃ n, l.length = n := ⟨_, rfl⟩
  have HN := Lib.hid hn
  rw [hn] at F9 H hl ⊢
  clear h hp hn f9
  go_enter Try.func5, Try.ntmps5
  go_wp2_with fail
  refine F9.out.mono ?_
  clear F9
  rintro z w1 ⟨m, hz, hm1, hm0, hm2, hw⟩
  subst hz
  have HB1 := Lib.hid hw.below
  clear hw
  by_cases hm : 2000 < m
  · clear H HP HN
    go_wp2_with (go_at_call 10; refine (awake_any _).mono ?_; rintro z w3 ⟨hz, hw⟩; subst hz; have HB3 := Lib.hid (HB1.out.trans (hw.mono HB1.out.size)); clear hw)
    go_ret
    exact ⟨rfl, HB3.out⟩
  have hm4 := hm1 (by omega)
  have HQ := Lib.hid (show n ≤ 2000 ∧ ∀ p ∈ l, p.1.props.length ≤ 2000 from ⟨by have := HN.out; omega, fun p hp => by have := sumP_mem hp; omega⟩)
  clear hm1 hm4 hl
  have hn2 : n ≤ 2000 := HQ.out.1
  have HER1 := Lib.hid (H.out.below HB1.out)
  have f29 := lentX_any _ l w1 HER1.out (by rw [HN.out]; omega) (fun p hp => Nat.le_trans (HQ.out.2 p hp) (by omega))
  unfold LentX at f29
  rw [HN.out] at f29
  have F29 := Lib.hid f29
  clear f29
  go_upto_region 4 with (go_at_call 29; refine F29.out.mono ?_; clear F29; rintro z w2 ⟨g, c, L, hz, hLn, hLm, hown, hlp, hw⟩; subst hz; have HLN := Lib.hid hLn; have HLM := Lib.hid hLm; have HOWN := Lib.hid hown; have HLP := Lib.hid hlp; have HB2 := Lib.hid (HB1.out.trans (hw.mono HB1.out.size)); have HER2 := Lib.hid (HER1.out.below hw); clear hLn hLm hown hlp hw)
  have HEX := Lib.hid (ER.lent HOWN.out HLP.out)
  have HEL := Lib.hid (show ER w2 (.slice (some ⟨g, 0, none⟩) n c) L by
    have h := er_take HEX.out (show n ≤ n + 12 by omega)
    rwa [List.take_left' HLN.out] at h)
  have HCP := Lib.hid (own_room HOWN.out)
  have hLp : ∀ p ∈ L, p.1.props.length ≤ 2000 := fun p hp => by
    have h1 : p.1 ∈ l.map (·.1) := by rw [← HLM.out]; exact List.mem_map_of_mem hp
    obtain ⟨p', hp', he⟩ := List.mem_map.1 h1
    rw [← he]
    exact HQ.out.2 p' hp'
  have HLQ := Lib.hid hLp
  have f30 := sort_any HEL.out (by rw [HLN.out]; omega) (fun p hp => Nat.le_trans (hLp p hp) (by omega))
  unfold SortR at f30
  rw [HLN.out] at f30
  have F30 := Lib.hid f30
  have f33 := fun W (hW : Below w2.heap.size w2 W) => keptX_any (HEX.out.below hW) HCP.out (fun p hp => (HLP.out p hp).below hW) HLM.out (HER2.out.below hW) HN.out (by omega) (fun p hp => Nat.le_trans (hLp p hp) (by omega))
  have F33 := Lib.hid f33
  clear f30 f33 hLp HEX HEL HOWN HLP
  go_upto_region 5 with (go_at_call 30; refine F30.out.mono ?_; clear F30; rintro z w3 ⟨v3, R3, hz, hRn, hst, hown, h53, hw⟩; subst hz; have HST := Lib.hid hst; have HO3 := Lib.hid hown; have H53 := Lib.hid h53; have HB3 := Lib.hid hw; have HRN := Lib.hid hRn; clear hst hown h53 hw hRn)
  have HE3 := Lib.hid (ER.of_own HO3.out (fun p hp => (H53.out p hp).pr))
  have HR3 := Lib.hid (show ∀ p ∈ R3, p.1.props.length ≤ 2000 from fun p hp => by
    have h1 : p.1 ∈ R3.map (·.1) := List.mem_map_of_mem hp
    have h2 : p.1 ∈ L.map (·.1) := by
      have h3 : p.1 ∈ lk cmpE p.1 (R3.map (·.1)) := List.mem_filter.2 ⟨h1, by simp [cm_edge.self]⟩
      rw [HST.out.eqv] at h3
      exact (List.mem_filter.1 h3).1
    obtain ⟨p', hp', he⟩ := List.mem_map.1 h2
    rw [← he]
    exact HLQ.out p' hp')
  have f32 := rSort_any (HER2.out.below HB3.out) (by rw [HN.out]; omega) (fun p hp => Nat.le_trans (HQ.out.2 p hp) (by omega))
  unfold RSortR at f32
  have F32 := Lib.hid f32
  clear f32
  go_upto_region 6 with (first
    | (go_at_call 32; refine F32.out.mono ?_; clear F32; rintro z w4 ⟨v4, R4, hz, hRn4, hst4, her4, hw⟩; subst hz; have HST4 := Lib.hid hst4; have HE4 := Lib.hid her4; have HB4 := Lib.hid (HB3.out.trans (hw.mono HB3.out.size)); have HE34 := Lib.hid (HE3.out.below hw); have HO4 := Lib.hid (own_below HO3.out hw); have H534 := Lib.hid (fun p hp => (H53.out p hp).below hw); clear hst4 her4 hw hRn4)
    | (go_at_call 31; refine (sameX_yes HE34.out HE4.out (HST.out.one (by rw [HLM.out]; exact HST4.out)) (fun p hp => Nat.le_trans (HR3.out p hp) (by omega)) (by rw [HRN.out]; omega)).mono ?_; rintro z w5 ⟨hz, hw⟩; subst hz; have HB5 := Lib.hid (HB4.out.trans (hw.mono HB4.out.size)); have HO5 := Lib.hid (own_below HO4.out hw); have H535 := Lib.hid (fun p hp => (H534.out p hp).below hw); clear hw)
    | (go_at_call 33; refine (F33.out _ HB5.out).mono ?_; rintro z w6 ⟨hz, hw⟩; subst hz; have HB6 := Lib.hid (HB5.out.trans (hw.mono HB5.out.size)); have HO6 := Lib.hid (own_below HO5.out hw); have H536 := Lib.hid (fun p hp => (H535.out p hp).below hw); clear hw))
  go_wp2_with (first
    | (go_at_call 34; refine (overX_any HO6.out H536.out (by omega) (fun p hp => Nat.le_trans (HR3.out p hp) (by omega)) HB6.out.size).mono ?_; rintro z w7 ⟨hz, hw⟩; subst hz; have HB7 := Lib.hid (HB6.out.trans hw); clear hw)
    | (go_at_call 33; refine (F33.out _ HB7.out).mono ?_; rintro z w8 ⟨hz, hw⟩; subst hz; have HB8 := Lib.hid (HB7.out.trans (hw.mono HB7.out.size)); clear hw)
    | (go_at_call 10; refine (awake_any _).mono ?_; rintro z w9 ⟨hz, hw⟩; subst hz; have HB9 := Lib.hid (HB8.out.trans (hw.mono HB8.out.size)); clear hw))
  go_ret
  exact ⟨rfl, HB2.out.trans (HB9.out.mono HB2.out.size)⟩
end Go.Proofs.Ytpoefcpgcojppaa

namespace Go.Proofs.Ytpoefcpgcojppaa
open Go.ChangeShapes Go.WideShapes Go.ChangeAt Go.RowKit
set_option linter.unusedVariables false

/-- the value of the first prop of a key -/
def propOf (key : ByteArray) : List Pt → Vt × Bool
  | [] => ((0, 0, ⟨#[]⟩), false)
  | p :: l => if p.1 = key then (p.2, true) else propOf key l
theorem propOf_drop {key : ByteArray} {l : List Pt} {k : Nat} (h : k < l.length) : propOf key (l.drop k) = if l[k].1 = key then (l[k].2, true) else propOf key (l.drop (k + 1)) := by
  rw [List.drop_eq_getElem_cons h]
  rfl
def PropR (key : ByteArray) (x : Ed) (w : World) (e : Ending) (w' : World) : Prop := e = .returned (.tuple #[.agg #[.int .i64 (propOf key x.props).1.1, .int .i64 (propOf key x.props).1.2.1, .string (propOf key x.props).1.2.2], .bool (propOf key x.props).2]) ∧ Below w.heap.size w w'
theorem below_set3 {w : World} {N E : Nat} (h : N ≤ E) (a0 a1 a2 : Value) : Below N w (((w.setCell ⟨E, 0, none⟩ a0).setCell ⟨E, 1, none⟩ a1).setCell ⟨E, 2, none⟩ a2) :=
  (((Below.refl N w).setCell (p := ⟨E, 0, none⟩) h a0).setCell (p := ⟨E, 1, none⟩) h a1).setCell (p := ⟨E, 2, none⟩) h a2
abbrev zV3 : Obj := .cells #[.int .i64 0, .int .i64 0, .string ⟨#[]⟩] 31

set_option maxHeartbeats 2000000 in
theorem prop_any {w : World} {x : Ed} {v : Value} (key : ByteArray) (h : PR w v x.props) (hl : x.props.length ≤ 281474976710656) : Calls Try.prog 12 #[x.v v, .string key] w (PropR key x w) := by
  unfold PropR
  obtain ⟨s, d, lb, t, l⟩ := x
  simp only at h hl ⊢
  unfold Ed.v
  simp only
  have H := Lib.hid h
  obtain ⟨A, c, rfl⟩ := h.form
  obtain ⟨n, hn⟩ : ∃ n, l.length = n := ⟨_, rfl⟩
  have HN := Lib.hid hn
  rw [hn] at H hl ⊢
  clear h hn
  obtain ⟨W0, hW0⟩ : ∃ W, (w.alloc (.cells #[.string s, .string d, .string lb, .int .i64 t, .slice A n c] 24)).alloc zV3 = W := ⟨_, rfl⟩
  have HB0 := Lib.hid (show Below w.heap.size w W0 by rw [← hW0]; exact ((Below.refl _ w).alloc (Nat.le_refl _) _).alloc (by simp) _)
  have HX := Lib.hid (show Bx5 W0 w.heap.size (.string s) (.string d) (.string lb) (.int .i64 t) (.slice A n c) by rw [← hW0]; exact Bx5.below (Bx5.new w _ _ _ _ _ 24) ((Below.refl _ _).alloc (Nat.le_refl _) _))
  have HR0 := Lib.hid (show W0.heap[w.heap.size + 1]? = some (.cells #[.int .i64 0, .int .i64 0, .string ⟨#[]⟩] 31 (0, 0)) by
    have := heap_alloc_new (w.alloc (.cells #[.string s, .string d, .string lb, .int .i64 t, .slice A n c] 24)) zV3
    rw [World.size_alloc, hW0] at this
    exact this)
  go_enter Try.func12, Try.ntmps12
  go_upto_region 1 with (fail)
  try rw [hW0]
  clear hW0
  obtain ⟨a0, a1, a2, a3, a4, _⟩ := HX.out
  go_wp2_with fail
  go_step3
  go_wp2_with fail
  go_step3
  go_wp2_with fail
  go_loopw [11] (fun i wr => ∃ k : Nat, k ≤ n ∧ i = .int .i64 k ∧ propOf key (l.drop k) = propOf key l ∧ Below W0.heap.size W0 wr) (fun i _ => n - (Lib.intOf i).toNat)
  case atStart => exact ⟨0, Nat.zero_le _, rfl, by rw [List.drop_zero], Below.refl _ _⟩
  case round =>
    obtain ⟨k, hk, rfl, hp, hb⟩ := hrel
    have HP := Lib.hid hp
    have HB := Lib.hid hb
    have hBw : w.heap.size + 1 < wr.heap.size := Nat.lt_of_lt_of_le (Array.getElem?_eq_some_iff.1 HR0.out).1 hb.size
    have HRr := Lib.hid (heap_keep hb HR0.out)
    clear hp hb a0 a1 a2 a3 a4
    by_cases hlt : k < n
    · have e1 : k < l.length := by have := HN.out; omega
      obtain ⟨ad, f1, hab, q0, q1, q2, q3⟩ := PR.at4 ((H.out.below HB0.out).below HB.out) e1
      subst f1
      have hst := propOf_drop (key := key) e1
      rw [HP.out] at hst
      obtain ⟨⟨pk, pa, pb, px⟩, hpp⟩ : ∃ p, l[k] = p := ⟨_, rfl⟩
      rw [hpp] at q0 q1 q2 q3 hst
      simp only at q0 q1 q2 q3 hst
      have HWA := Lib.hid ((Below.refl wr.heap.size wr).alloc (Nat.le_refl _) (.cells #[.string pk, .int .i64 pa, .int .i64 pb, .string px] 53))
      by_cases hkey : pk = key
      · subst hkey
        rw [if_pos rfl] at hst
        have HST := Lib.hid hst
        have hRw := HRr.out
        have r0 := cell_of_row _ _ 0 _ 31 (0, 0) hRw
        have r1 := cell_of_row _ _ 1 _ 31 (0, 0) hRw
        have r2 := cell_of_row _ _ 2 _ 31 (0, 0) hRw
        have s0 := Go.Joins.unfrozen_of_block hRw 0
        have s1 := Go.Joins.unfrozen_of_block hRw 1
        have s2 := Go.Joins.unfrozen_of_block hRw 2
        have hRa := heap_keep HWA.out HRr.out
        have d0 := cell_of_row _ _ 0 _ 31 (0, 0) hRa
        have d1 := cell_of_row _ _ 1 _ 31 (0, 0) hRa
        have d2 := cell_of_row _ _ 2 _ 31 (0, 0) hRa
        have g0 := Go.Joins.unfrozen_of_block hRa 0
        have g1' := Go.Joins.unfrozen_of_block hRa 1
        have g2' := Go.Joins.unfrozen_of_block hRa 2
        clear hst hpp hRa hRw
        go_wp2_with fail
        unfold Exit.noGoto
        have hF : ((((wr.setCell ⟨w.heap.size + 1, 0, none⟩ (.int .i64 pa)).setCell ⟨w.heap.size + 1, 1, none⟩ (.int .i64 pb)).setCell ⟨w.heap.size + 1, 2, none⟩ (.string px)).alloc (.cells #[.string pk, .int .i64 pa, .int .i64 pb, .string px] 53)).heap[w.heap.size + 1]? = some (.cells #[.int .i64 pa, .int .i64 pb, .string px] 31 (0, 0)) := (Below.heap_alloc _ _ _ (by simp; omega)).trans (Go.Joins.block_setCell (Go.Joins.block_setCell (Go.Joins.block_setCell HRr.out _) _) _)
        have e0 := cell_of_row _ _ 0 _ 31 (0, 0) hF
        have e1' := cell_of_row _ _ 1 _ 31 (0, 0) hF
        have e2 := cell_of_row _ _ 2 _ 31 (0, 0) hF
        exact bodyPost_ret (v := .tuple #[.agg #[.int .i64 pa, .int .i64 pb, .string px], .bool true]) (by simp [results, Try.results12, go_sem, e0, e1', e2]) rfl ⟨by rw [HST.out], (HB0.out.trans (HB.out.mono HB0.out.size)).trans ((below_set3 (Nat.le_succ _) _ _ _).alloc (by simp; omega) _)⟩
      · rw [if_neg hkey] at hst
        have HST := Lib.hid hst
        have hne : (pk.toList == key.toList) = false := by rw [beqS, decide_eq_false hkey]
        clear hst hpp hkey
        go_wp2_with fail
        go_roundw
        case rel => exact ⟨k + 1, by omega, by go_num, HST.out.symm, HB.out.alloc HB.out.size _⟩
        case measure => simp [Lib.intOf]; omega
    · obtain rfl : k = n := by omega
      have hz : propOf key l = ((0, 0, ⟨#[]⟩), false) := by
        rw [← HP.out, List.drop_eq_nil_of_le (by rw [HN.out]; exact Nat.le_refl _)]
        rfl
      have HZ := Lib.hid hz
      have hRa := HRr.out
      have d0 := cell_of_row _ _ 0 _ 31 (0, 0) hRa
      have d1 := cell_of_row _ _ 1 _ 31 (0, 0) hRa
      have d2 := cell_of_row _ _ 2 _ 31 (0, 0) hRa
      have g0 := Go.Joins.unfrozen_of_block hRa 0
      have g1' := Go.Joins.unfrozen_of_block hRa 1
      have g2' := Go.Joins.unfrozen_of_block hRa 2
      clear hRa hz
      go_wp2_with fail
      unfold Exit.noGoto
      exact bodyPost_ret (v := .tuple #[.agg #[.int .i64 0, .int .i64 0, .string ⟨#[]⟩], .bool false]) (by simp [results, Try.results12, go_sem, d0, d1, d2, g0, g1', g2']) rfl ⟨by rw [HZ.out], (HB0.out.trans (HB.out.mono HB0.out.size)).trans (below_set3 (Nat.le_succ _) _ _ _)⟩

set_option maxHeartbeats 2000000 in
theorem rProp_any {w : World} {x : Ed} {v : Value} (key : ByteArray) (h : PR w v x.props) (hl : x.props.length ≤ 281474976710656) : Calls Try.prog 13 #[x.v v, .string key] w (PropR key x w) := by
  unfold PropR
  obtain ⟨s, d, lb, t, l⟩ := x
  simp only at h hl ⊢
  unfold Ed.v
  simp only
  have H := Lib.hid h
  obtain ⟨A, c, rfl⟩ := h.form
  obtain ⟨n, hn⟩ : ∃ n, l.length = n := ⟨_, rfl⟩
  have HN := Lib.hid hn
  rw [hn] at H hl ⊢
  clear h hn
  obtain ⟨W0, hW0⟩ : ∃ W, (w.alloc (.cells #[.string s, .string d, .string lb, .int .i64 t, .slice A n c] 24)).alloc zV3 = W := ⟨_, rfl⟩
  have HB0 := Lib.hid (show Below w.heap.size w W0 by rw [← hW0]; exact ((Below.refl _ w).alloc (Nat.le_refl _) _).alloc (by simp) _)
  have HX := Lib.hid (show Bx5 W0 w.heap.size (.string s) (.string d) (.string lb) (.int .i64 t) (.slice A n c) by rw [← hW0]; exact Bx5.below (Bx5.new w _ _ _ _ _ 24) ((Below.refl _ _).alloc (Nat.le_refl _) _))
  have HR0 := Lib.hid (show W0.heap[w.heap.size + 1]? = some (.cells #[.int .i64 0, .int .i64 0, .string ⟨#[]⟩] 31 (0, 0)) by
    have := heap_alloc_new (w.alloc (.cells #[.string s, .string d, .string lb, .int .i64 t, .slice A n c] 24)) zV3
    rw [World.size_alloc, hW0] at this
    exact this)
  go_enter Try.func13, Try.ntmps13
  go_upto_region 1 with (fail)
  try rw [hW0]
  clear hW0
  obtain ⟨a0, a1, a2, a3, a4, _⟩ := HX.out
  go_wp2_with fail
  go_loop [6] (fun i => ∃ k : Nat, k ≤ n ∧ i = .int .i64 k ∧ propOf key (l.drop k) = propOf key l) (fun i => n - (Lib.intOf i).toNat)
  case atStart => exact ⟨0, Nat.zero_le _, rfl, by rw [List.drop_zero]⟩
  case round =>
    obtain ⟨k, hk, rfl, hp⟩ := hrel
    have HP := Lib.hid hp
    have hRa := HR0.out
    have d0 := cell_of_row _ _ 0 _ 31 (0, 0) hRa
    have d1 := cell_of_row _ _ 1 _ 31 (0, 0) hRa
    have d2 := cell_of_row _ _ 2 _ 31 (0, 0) hRa
    have g0 := Go.Joins.unfrozen_of_block hRa 0
    have g1' := Go.Joins.unfrozen_of_block hRa 1
    have g2' := Go.Joins.unfrozen_of_block hRa 2
    clear hp hRa
    by_cases hlt : k < n
    · have e1 : k < l.length := by have := HN.out; omega
      obtain ⟨ad, f1, hab, q0, q1, q2, q3⟩ := PR.at4 (H.out.below HB0.out) e1
      subst f1
      have hst := propOf_drop (key := key) e1
      rw [HP.out] at hst
      obtain ⟨⟨pk, pa, pb, px⟩, hpp⟩ : ∃ p, l[k] = p := ⟨_, rfl⟩
      rw [hpp] at q0 q1 q2 q3 hst
      simp only at q0 q1 q2 q3 hst
      by_cases hkey : pk = key
      · subst hkey
        rw [if_pos rfl] at hst
        have HST := Lib.hid hst
        clear hst hpp
        go_wp2_with fail
        exact bodyPost_ret (v := .tuple #[.agg #[.int .i64 pa, .int .i64 pb, .string px], .bool true]) (by simp [results, Try.results13, go_sem, d0, d1, d2, g0, g1', g2']) rfl ⟨by rw [HST.out], HB0.out.trans (below_set3 (Nat.le_succ _) _ _ _)⟩
      · rw [if_neg hkey] at hst
        have HST := Lib.hid hst
        have hne : (pk.toList == key.toList) = false := by rw [beqS, decide_eq_false hkey]
        clear hst hpp hkey
        go_wp2_with fail
        go_round
        case rel => exact ⟨k + 1, by omega, by go_num, HST.out.symm⟩
        case measure => simp [Lib.intOf]; omega
    · obtain rfl : k = n := by omega
      have hz : propOf key l = ((0, 0, ⟨#[]⟩), false) := by
        rw [← HP.out, List.drop_eq_nil_of_le (by rw [HN.out]; exact Nat.le_refl _)]
        rfl
      have HZ := Lib.hid hz
      clear hz
      go_wp2_with fail
      exact bodyPost_ret (v := .tuple #[.agg #[.int .i64 0, .int .i64 0, .string ⟨#[]⟩], .bool false]) (by simp [results, Try.results13, go_sem, d0, d1, d2, g0, g1', g2']) rfl ⟨by rw [HZ.out], HB0.out.trans (below_set3 (Nat.le_succ _) _ _ _)⟩
end Go.Proofs.Ytpoefcpgcojppaa

namespace Go.Proofs.Ytpoefcpgcojppaa
open Go.ChangeShapes Go.WideShapes Go.ChangeAt Go.RowKit
set_option linter.unusedVariables false

theorem heap_at1 (w : World) (o o' : Obj) : ((w.alloc o).alloc o').heap[w.heap.size + 1]? = some o' := by
  have h := heap_alloc_new (w.alloc o) o'
  rwa [World.size_alloc] at h

theorem Keep.mono {p q : Nat → Prop} {w w' : World} (h : Keep p w w') (hq : ∀ k, q k → p k) : Keep q w w' := ⟨h.os, h.tape, h.output, h.size, fun k hk hp => h.block k hk (hq k hp)⟩
abbrev E5 (a0 a1 a2 a3 a4 : Value) : Obj := .cells #[a0, a1, a2, a3, a4] 24
/-- two blocks filled, the rest as it was -/
structure Two (wB W : World) (E7 E8 : Nat) (a0 a1 a2 a3 a4 b0 b1 b2 b3 b4 : Value) : Prop where
  h7 : W.heap[E7]? = some (.cells #[a0, a1, a2, a3, a4] 24 (0, 0))
  h8 : W.heap[E8]? = some (.cells #[b0, b1, b2, b3, b4] 24 (0, 0))
  kp : Keep (fun k => k ≠ E7 ∧ k ≠ E8) wB W
theorem set5_block {w : World} {E : Nat} {v0 v1 v2 v3 v4 : Value} (h : w.heap[E]? = some (.cells #[v0, v1, v2, v3, v4] 24 (0, 0))) (a0 a1 a2 a3 a4 : Value) : (((((w.setCell ⟨E, 0, none⟩ a0).setCell ⟨E, 1, none⟩ a1).setCell ⟨E, 2, none⟩ a2).setCell ⟨E, 3, none⟩ a3).setCell ⟨E, 4, none⟩ a4).heap[E]? = some (.cells #[a0, a1, a2, a3, a4] 24 (0, 0)) :=
  Go.Joins.block_setCell (Go.Joins.block_setCell (Go.Joins.block_setCell (Go.Joins.block_setCell (Go.Joins.block_setCell h _) _) _) _) _
theorem two_a (wB : World) (a0 a1 a2 a3 a4 b0 b1 b2 b3 b4 : Value) : Two wB ((wB.alloc (E5 a0 a1 a2 a3 a4)).alloc (E5 b0 b1 b2 b3 b4)) wB.heap.size (wB.heap.size + 1) a0 a1 a2 a3 a4 b0 b1 b2 b3 b4 :=
  ⟨(Below.heap_alloc _ _ _ (by simp)).trans (heap_alloc_new wB _), heap_at1 wB _ _, Keep.of_below (((Below.refl _ wB).alloc (Nat.le_refl _) _).alloc (by simp) _)⟩
theorem Two.swap {wB W : World} {E7 E8 : Nat} {a0 a1 a2 a3 a4 b0 b1 b2 b3 b4 : Value} (h : Two wB W E7 E8 a0 a1 a2 a3 a4 b0 b1 b2 b3 b4) : Two wB W E8 E7 b0 b1 b2 b3 b4 a0 a1 a2 a3 a4 :=
  ⟨h.h8, h.h7, ⟨h.kp.os, h.kp.tape, h.kp.output, h.kp.size, fun k hk hp => h.kp.block k hk ⟨hp.2, hp.1⟩⟩⟩
theorem two_c {wB : World} {E : Nat} {v0 v1 v2 v3 v4 : Value} (h : wB.heap[E]? = some (.cells #[v0, v1, v2, v3, v4] 24 (0, 0))) (a0 a1 a2 a3 a4 b0 b1 b2 b3 b4 : Value) : Two wB ((((((wB.setCell ⟨E, 0, none⟩ a0).setCell ⟨E, 1, none⟩ a1).setCell ⟨E, 2, none⟩ a2).setCell ⟨E, 3, none⟩ a3).setCell ⟨E, 4, none⟩ a4).alloc (E5 b0 b1 b2 b3 b4)) E wB.heap.size a0 a1 a2 a3 a4 b0 b1 b2 b3 b4 := by
  have hlt := (Array.getElem?_eq_some_iff.1 h).1
  have hz : (((((wB.setCell ⟨E, 0, none⟩ a0).setCell ⟨E, 1, none⟩ a1).setCell ⟨E, 2, none⟩ a2).setCell ⟨E, 3, none⟩ a3).setCell ⟨E, 4, none⟩ a4).heap.size = wB.heap.size := by simp
  refine ⟨(Below.heap_alloc _ _ _ (by rw [hz]; exact hlt)).trans (set5_block h _ _ _ _ _), ?_, ?_⟩
  · have := heap_alloc_new (((((wB.setCell ⟨E, 0, none⟩ a0).setCell ⟨E, 1, none⟩ a1).setCell ⟨E, 2, none⟩ a2).setCell ⟨E, 3, none⟩ a3).setCell ⟨E, 4, none⟩ a4) (E5 b0 b1 b2 b3 b4)
    rwa [hz] at this
  · refine (set5_keep wB E a0 a1 a2 a3 a4).trans (Keep.of_below (p := fun k => k ≠ E) ((Below.refl _ _).alloc (Nat.le_refl _) _)) (fun _ _ h => h) |>.mono ?_
    exact fun k hp => hp.1
theorem two_e {wB : World} {E F : Nat} {v0 v1 v2 v3 v4 u0 u1 u2 u3 u4 : Value} (h : wB.heap[E]? = some (.cells #[v0, v1, v2, v3, v4] 24 (0, 0))) (h' : wB.heap[F]? = some (.cells #[u0, u1, u2, u3, u4] 24 (0, 0))) (hEF : E ≠ F) (a0 a1 a2 a3 a4 b0 b1 b2 b3 b4 : Value) : Two wB ((((((((((wB.setCell ⟨E, 0, none⟩ a0).setCell ⟨E, 1, none⟩ a1).setCell ⟨E, 2, none⟩ a2).setCell ⟨E, 3, none⟩ a3).setCell ⟨E, 4, none⟩ a4).setCell ⟨F, 0, none⟩ b0).setCell ⟨F, 1, none⟩ b1).setCell ⟨F, 2, none⟩ b2).setCell ⟨F, 3, none⟩ b3).setCell ⟨F, 4, none⟩ b4) E F a0 a1 a2 a3 a4 b0 b1 b2 b3 b4 := by
  have k1 := set5_keep wB E a0 a1 a2 a3 a4
  have hlt := (Array.getElem?_eq_some_iff.1 h).1
  have hlt' := (Array.getElem?_eq_some_iff.1 h').1
  have k2 := set5_keep (((((wB.setCell ⟨E, 0, none⟩ a0).setCell ⟨E, 1, none⟩ a1).setCell ⟨E, 2, none⟩ a2).setCell ⟨E, 3, none⟩ a3).setCell ⟨E, 4, none⟩ a4) F b0 b1 b2 b3 b4
  refine ⟨(k2.block E (Nat.lt_of_lt_of_le hlt k1.size) hEF).trans (set5_block h _ _ _ _ _), set5_block ((k1.block F hlt' (Ne.symm hEF)).trans h') _ _ _ _ _, ?_⟩
  exact (k1.mono (q := fun k => k ≠ E ∧ k ≠ F) (fun k hp => hp.1)).trans k2 (fun _ _ hp => hp.2)

end Go.Proofs.Ytpoefcpgcojppaa

namespace Go.Proofs.Ytpoefcpgcojppaa
open Go.ChangeShapes Go.WideShapes Go.ChangeAt Go.RowKit
set_option linter.unusedVariables false
theorem eqIn31 (W : World) (d : Nat) (a a' b b' : Int) (c c' : ByteArray) : (Op.equalIn (d + 1 + 1) 31 (.agg #[.int .i64 a, .int .i64 b, .string c]) (.agg #[.int .i64 a', .int .i64 b', .string c'])).run Try.prog W = .ok (decide ((a, b, c) = (a', b', c'))) W := by
  rw [run_equalIn_struct W (d + 1) 31 _ _ (by kernel_rfl) (by kernel_rfl)]
  simp [Program.fieldsOf, Try.underlying31, Op.eqFields, go_sem]
  simp only [tl_iff]
  by_cases h1 : a = a' <;> by_cases h2 : b = b' <;> by_cases h3 : c = c' <;> simp [h1, h2, h3]
theorem eq31_eq (W : World) (a b : Int) (c : ByteArray) : (binOp .eql 31 (.agg #[.int .i64 a, .int .i64 b, .string c]) (.agg #[.int .i64 a, .int .i64 b, .string c])).run Try.prog W = .ok (.bool true) W := by
  rw [run_eql_struct, eqIn31, decide_eq_true rfl]
  rfl
end Go.Proofs.Ytpoefcpgcojppaa
