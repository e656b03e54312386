/- Texts UP, UQ, UT, QC, QD, UR, one behind the other. -/
import Derived.Test.YtpoefcpgcojppaaK0
import Derived.Test.YtpoefcpgcojppaaK1
import Derived.Test.YtpoefcpgcojppaaK2
import Derived.Test.YtpoefcpgcojppaaK3
import Derived.Test.YtpoefcpgcojppaaK4
import Derived.Test.YtpoefcpgcojppaaK5
import Derived.Test.YtpoefcpgcojppaaK6
import Derived.Test.YtpoefcpgcojppaaK7
import Derived.Test.YtpoefcpgcojppaaK8
import Derived.Test.YtpoefcpgcojppaaK9
import Derived.LaidMore
import Derived.OpenShut
import Derived.SevenTiedAt
import Derived.MakeChecks
import Derived.Lib.LaidTab
import Derived.Deep.Slices
import Derived.Deep.Strs
import Derived.SliceStrings
import Derived.SizedLaws
import Derived.Carry
import Derived.Lib.SmallJoins
namespace Go.Proofs.Ytpoefcpgcojppaa
open Go.ChangeShapes Go.WideShapes Go.ChangeAt Go.RowKit
set_option linter.unusedVariables false

/-- a row of props that may be written -/
def Sh53 (w : World) (N : Nat) (v : Value) (n : Nat) : Prop := (v = .slice none 0 0 ∧ n = 0) ∨ ∃ (g c : Nat) (cur : Array Value), v = .slice (some ⟨g, 0, none⟩) n c ∧ N ≤ g ∧ w.heap[g]? = some (.cells cur 53 (0, 0)) ∧ n ≤ c ∧ c ≤ maxLen ∧ cur.size = c * 4
theorem Sh53.of {w : World} {N : Nat} {p : Ev} (h : Own53 w N p) : Sh53 w N p.2 p.1.props.length := by
  rcases h.2 with h | ⟨g, c, cur, h1, h2, h3, h4, h5, h6, _⟩
  · exact .inl h
  · exact .inr ⟨g, c, cur, h1, h2, h3, h4, h5, h6⟩
theorem Sh53.ov {w w' : World} {N n : Nat} {v : Value} {t : TypeId} (h : Sh53 w N v n) (k : Ov N t w w') : Sh53 w' N v n := by
  rcases h with h | ⟨g, c, cur, h1, h2, h3, h4, h5, h6⟩
  · exact .inl h
  · obtain ⟨cur', k1, k2, _⟩ := k.sh g cur 53 h3
    exact .inr ⟨g, c, cur', h1, h2, k1, h4, h5, k2.trans h6⟩
theorem overP_sh {w : World} {N n : Nat} {v : Value} (h : Sh53 w N v n) (hn : n ≤ 100000) (hNw : N ≤ w.heap.size) : Calls Try.prog 87 #[v] w fun e w' => e = .returned (.tuple #[]) ∧ Ov N 53 w w' := by
  rcases h with ⟨rfl, _⟩ | ⟨g, c, cur, rfl, h2, h3, h4, h5, h6⟩
  · refine (overP_nil w).mono ?_
    rintro e w' ⟨rfl, rfl⟩
    exact ⟨rfl, Ov.refl _ _ _⟩
  · exact overP_any N g n c cur w h2 h3 h6 h4 hn h5 hNw
theorem Sh53.form {w : World} {N n : Nat} {v : Value} (h : Sh53 w N v n) : ∃ A c, v = .slice A n c := by
  rcases h with ⟨rfl, rfl⟩ | ⟨g, c, cur, rfl, _⟩
  · exact ⟨_, _, rfl⟩
  · exact ⟨_, _, rfl⟩

theorem overE_any {w : World} {N : Nat} {x : Ed} {v : Value} (h : Sh53 w N v x.props.length) (hn : x.props.length ≤ 100000) (hNw : N ≤ w.heap.size) : Calls Try.prog 67 #[x.v v] w fun e w' => e = .returned (.tuple #[]) ∧ Ov N 53 w w' := by
  obtain ⟨A, c, rfl⟩ := h.form
  unfold Ed.v
  have hb : Below w.heap.size w (w.alloc (.cells #[.string x.src, .string x.dst, .string x.lab, .int .i64 x.time, .slice A x.props.length c] 24)) := (Below.refl _ w).alloc (Nat.le_refl _) _
  have HO := Lib.hid (Ov.of_below (t0 := 53) hb hNw)
  have HP := Lib.hid (overP_sh (h.ov HO.out) hn (Nat.le_trans hNw hb.size))
  clear h hb
  obtain ⟨s, d, lb, t, ps⟩ := x
  simp only at *
  go_enter Try.func67, Try.ntmps67
  go_wp2_with (go_at_call 87; refine HP.out.mono ?_; rintro z w2 ⟨rfl, hw⟩)
  go_end0
  exact ⟨rfl, HO.out.trans hw⟩

theorem Ov.own {N base n sz : Nat} {t0 t : TypeId} {w w' : World} {v : Value} {xs : List Value} (h : Ov N t0 w w') (k : w.ownsRow base t sz v n xs) (ht : t ≠ t0) : w'.ownsRow base t sz v n xs := by
  refine ⟨k.1, ?_⟩
  rcases k.2 with hn | ⟨g, cap, cur, hv, hb, hh, rest⟩
  · exact .inl hn
  · obtain ⟨cur', h1, h2, h3⟩ := h.sh g cur t hh
    rw [h3 ht] at h1
    exact .inr ⟨g, cap, cur, hv, hb, h1, rest⟩
theorem own_cells5 {w : World} {base n c g : Nat} {l : List Ev} (h : w.ownsRow base 24 5 (.slice (some ⟨g, 0, none⟩) n c) n (flatX l)) {k : Nat} (hk : k < l.length) :
    w.cell? ⟨g, k * 5, none⟩ = some (.string l[k].1.src) ∧ w.cell? ⟨g, k * 5 + 1, none⟩ = some (.string l[k].1.dst) ∧ w.cell? ⟨g, k * 5 + 2, none⟩ = some (.string l[k].1.lab) ∧ w.cell? ⟨g, k * 5 + 3, none⟩ = some (.int .i64 l[k].1.time) ∧ w.cell? ⟨g, k * 5 + 4, none⟩ = some l[k].2 := by
  obtain ⟨f0, f1, f2, f3, f4⟩ := flatX_at l k hk
  have ea : ∀ j, (⟨g, 0, none⟩ : Addr).add j = ⟨g, j, none⟩ := fun j => by unfold Addr.add; split <;> simp_all
  have hc := fun j u hj => h.cells (g := g) rfl j u hj
  simp only [ea] at hc
  exact ⟨hc _ _ f0, hc _ _ f1, hc _ _ f2, hc _ _ f3, hc _ _ f4⟩

theorem overX_nil (w : World) : Calls Try.prog 34 #[.slice none 0 0] w fun e w' => e = .returned (.tuple #[]) ∧ w = w' := by
  go_enter Try.func34, Try.ntmps34
  go_wp2_with fail
  refine wp_loop_rounds 1 ?_
  rw [rounds_succ]
  go_wp2_with fail
  refine wp_loop_rounds 1 ?_
  rw [rounds_succ]
  go_wp2_with fail
  go_end0
  exact ⟨rfl, rfl⟩

set_option maxHeartbeats 2000000 in
set_option maxRecDepth 100000 in
theorem overX_any {w : World} {N n : Nat} {v : Value} {l : List Ev} (h : w.ownsRow N 24 5 v n (flatX l)) (hs : ∀ p ∈ l, Own53 w N p) (hn : n ≤ 100000) (hp : ∀ p ∈ l, p.1.props.length ≤ 100000) (hNw : N ≤ w.heap.size) :
    Calls Try.prog 34 #[v] w fun e w' => e = .returned (.tuple #[]) ∧ Below N w w' := by
  have hll : l.length = n := by have := h.1; rw [flatX_len] at this; omega
  rcases h.2 with ⟨rfl, rfl⟩ | ⟨g, c, cur, rfl, hNg, hh, hnc, hcm, hsz, _⟩
  · refine (overX_nil w).mono ?_
    rintro e w' ⟨rfl, rfl⟩
    exact ⟨rfl, Below.refl _ _⟩
  · have H := Lib.hid h
    have HS := Lib.hid (fun p hp => Sh53.of (hs p hp))
    have HP := Lib.hid hp
    have HL := Lib.hid hll
    have HG := Lib.hid hh
    have HC := Lib.hid hsz
    have HNW := Lib.hid hNw
    unfold maxLen at hcm
    obtain ⟨q, hq⟩ : ∃ q, q = min c (n + 12) := ⟨_, rfl⟩
    have hmin : min (c : Int) ((n : Int) + 12) = (q : Int) := by omega
    have hqc : q ≤ c := by omega
    have hq9 : q ≤ 100012 := by omega
    clear hq h hs hp hll hh hsz hNw
    go_enter Try.func34, Try.ntmps34
    go_wp2_with fail
    go_loopw [2] (fun i wr => ∃ k : Nat, k ≤ n ∧ i = .int .i64 k ∧ Ov N 53 w wr) (fun i _ => n - (Lib.intOf i).toNat)
    case atStart => exact ⟨0, Nat.zero_le _, rfl, Ov.refl _ _ _⟩
    case round =>
      obtain ⟨k, hk, rfl, hov⟩ := hrel
      have HOV := Lib.hid hov
      clear hov
      by_cases hlt : k < n
      · have e1 : k < l.length := by rw [HL.out]; exact hlt
        obtain ⟨q0, q1, q2, q3, q4⟩ := own_cells5 (HOV.out.own H.out (by decide)) e1
        have hsh := (HS.out _ (List.getElem_mem e1)).ov HOV.out
        have hpl := HP.out _ (List.getElem_mem e1)
        have F67 := Lib.hid (overE_any (x := (l[k]'e1).1) hsh hpl (Nat.le_trans HNW.out HOV.out.bl.size))
        unfold Ed.v at F67
        obtain ⟨Ap, cp, hpv⟩ := hsh.form
        rw [hpv] at q4 F67
        generalize (l[k]'e1).1 = x at q0 q1 q2 q3 q4 F67
        obtain ⟨s, d, lb, t, ps⟩ := x
        simp only at q0 q1 q2 q3 q4 F67
        generalize ps.length = m at q4 F67
        clear hsh hpl hpv
        go_wp2_with (go_at_call 67; refine F67.out.mono ?_; clear F67; rintro z w2 ⟨hz, hw⟩; subst hz; have HO2 := Lib.hid (HOV.out.trans hw); clear hw q0 q1 q2 q3 q4)
        go_roundw
        case rel => exact ⟨k + 1, by omega, by go_num, HO2.out⟩
        case measure => simp [Lib.intOf]; omega
      · obtain rfl : k = n := by omega
        obtain ⟨cur1, hg1, hs1, hc1⟩ := HOV.out.sh g cur 24 HG.out
        have HG1 := Lib.hid hg1
        have HS1 := Lib.hid (hs1.trans HC.out)
        have HSZ1 := Lib.hid (Nat.le_trans HNW.out HOV.out.bl.size)
        clear hg1 hs1 hc1
        go_wp2_with fail
        clear hmin
        obtain ⟨W1, hW1⟩ : ∃ W, W = wr := ⟨_, rfl⟩
        subst hW1
        go_loopw [4] (fun i wr => ∃ k : Nat, k ≤ q ∧ i = .int .i64 k ∧ Ov N 24 W1 wr) (fun i _ => q - (Lib.intOf i).toNat)
        case atStart => exact ⟨0, Nat.zero_le _, rfl, Ov.refl _ _ _⟩
        case round =>
          obtain ⟨j, hj, rfl, hov⟩ := hrel
          have HOW := Lib.hid hov
          clear hov
          by_cases hlt2 : j < q
          · go_wp2_with fail
            refine (markX2_any j _ (by omega)).mono ?_
            rintro e w2 ⟨rfl, hg2⟩
            have hb2 := hg2.below
            obtain ⟨c1, hc1, hs1, _⟩ := HOW.out.sh g cur1 24 HG1.out
            have h2 := heap_keep hb2 hc1
            have hsz : j * 5 + 5 ≤ c1.size := by rw [hs1, HS1.out]; omega
            obtain ⟨y0, q0⟩ := cell_some (j := j * 5) h2 (by omega)
            obtain ⟨y1, q1⟩ := cell_some (j := j * 5 + 1) h2 (by omega)
            obtain ⟨y2, q2⟩ := cell_some (j := j * 5 + 2) h2 (by omega)
            obtain ⟨y3, q3⟩ := cell_some (j := j * 5 + 3) h2 (by omega)
            obtain ⟨y4, q4⟩ := cell_some (j := j * 5 + 4) h2 (by omega)
            have f0 := Go.Joins.unfrozen_of_block h2 (j * 5)
            have f1 := Go.Joins.unfrozen_of_block h2 (j * 5 + 1)
            have f2 := Go.Joins.unfrozen_of_block h2 (j * 5 + 2)
            have f3 := Go.Joins.unfrozen_of_block h2 (j * 5 + 3)
            have f4 := Go.Joins.unfrozen_of_block h2 (j * 5 + 4)
            have HB2 := Lib.hid hb2
            have H2 := Lib.hid h2
            clear hb2 hg2 hs1 hsz
            go_wp2_with fail
            have HF := Lib.hid (show Ov N 24 W1 (((((w2.setCell ⟨g, j * 5, none⟩ (.string ⟨#[]⟩)).setCell ⟨g, j * 5 + 1, none⟩ (.string ⟨#[]⟩)).setCell ⟨g, j * 5 + 2, none⟩ (.string ⟨#[]⟩)).setCell ⟨g, j * 5 + 3, none⟩ (.int .i64 (9000027 + j))).setCell ⟨g, j * 5 + 4, none⟩ (.slice none 0 0)) from
              (((((HOW.out.trans (Ov.of_below HB2.out (Nat.le_trans HSZ1.out HOW.out.bl.size))).trans (Ov.set hNg H2.out _)).trans (Ov.set hNg (Go.Joins.block_setCell H2.out _) _)).trans (Ov.set hNg (Go.Joins.block_setCell (Go.Joins.block_setCell H2.out _) _) _)).trans (Ov.set hNg (Go.Joins.block_setCell (Go.Joins.block_setCell (Go.Joins.block_setCell H2.out _) _) _) _)).trans (Ov.set hNg (Go.Joins.block_setCell (Go.Joins.block_setCell (Go.Joins.block_setCell (Go.Joins.block_setCell H2.out _) _) _) _) _))
            go_roundw
            case rel => exact ⟨j + 1, by omega, by go_num, HF.out⟩
            case measure => simp [Lib.intOf]; omega
          · obtain rfl : j = q := by omega
            go_wp2_with fail
            go_end0
            exact ⟨rfl, HOV.out.bl.trans HOW.out.bl⟩
end Go.Proofs.Ytpoefcpgcojppaa

namespace Go.Proofs.Ytpoefcpgcojppaa
open Go.ChangeShapes Go.WideShapes Go.ChangeAt Go.RowKit
set_option linter.unusedVariables false

theorem sumP_mem {l : List Ev} {p : Ev} (h : p ∈ l) : p.1.props.length ≤ sumP l := by
  unfold sumP
  induction l with
  | nil => cases h
  | cons a l ih =>
    rw [List.map_cons, List.sum_cons]
    rcases List.mem_cons.1 h with rfl | h
    · omega
    · have := ih h
      omega
theorem ER.lent {w : World} {g c n N : Nat} {L : List Ev} (h : w.ownsRow N 24 5 (.slice (some ⟨g, 0, none⟩) (n + 12) c) (n + 12) (flatX (L ++ mksX))) (hL : ∀ p ∈ L, Lp w p) : ER w (.slice (some ⟨g, 0, none⟩) (n + 12) c) (L ++ mksX) :=
  ER.of_own h fun p hp => by
    rcases List.mem_append.1 hp with hp | hp
    · exact (hL p hp).pr
    · obtain ⟨k, _, rfl⟩ := List.mem_map.1 hp
      exact PR.nil _ _ _

set_option maxHeartbeats 4000000 in
set_option maxRecDepth 100000 in
theorem sorts_any {w : World} {v : Value} {l : List Ev} (h : ER w v l) (hl : l.length ≤ 281474976710656) (hp : ∀ p ∈ l, p.1.props.length ≤ 281474976710656) :
    Calls Try.prog 5 #[v] w fun e w' => e = .returned (.bool true) ∧ Below w.heap.size w w' := by
  have H := Lib.hid h
  have HP := Lib.hid hp
  have f9 := size_sum h hl hp
  unfold SizS at f9
  have F9 := Lib.hid f9
  obtain ⟨A0, c0, rfl⟩ := h.form
  obtain ⟨n, hn⟩ : ∃ n, l.length = n := ⟨_, rfl⟩
  have HN := Lib.hid hn
  rw [hn] at F9 H hl ⊢
  clear h hp hn f9
  go_enter Try.func5, Try.ntmps5
  go_wp2_with fail
  refine F9.out.mono ?_
  clear F9
  rintro z w1 ⟨m, hz, hm1, hm0, hm2, hw⟩
  subst hz
  have HB1 := Lib.hid hw.below
  clear hw
  by_cases hm : 2000 < m
  · clear H HP HN
    go_wp2_with (go_at_call 10; refine (awake_any _).mono ?_; rintro z w3 ⟨hz, hw⟩; subst hz; have HB3 := Lib.hid (HB1.out.trans (hw.mono HB1.out.size)); clear hw)
    go_ret
    exact ⟨rfl, HB3.out⟩
  have hm4 := hm1 (by omega)
  have HQ := Lib.hid (show n ≤ 2000 ∧ ∀ p ∈ l, p.1.props.length ≤ 2000 from ⟨by have := HN.out; omega, fun p hp => by have := sumP_mem hp; omega⟩)
  clear hm1 hm4 hl
  have hn2 : n ≤ 2000 := HQ.out.1
  have HER1 := Lib.hid (H.out.below HB1.out)
  have f29 := lentX_any _ l w1 HER1.out (by rw [HN.out]; omega) (fun p hp => Nat.le_trans (HQ.out.2 p hp) (by omega))
  unfold LentX at f29
  rw [HN.out] at f29
  have F29 := Lib.hid f29
  clear f29
  go_upto_region 4 with (go_at_call 29; refine F29.out.mono ?_; clear F29; rintro z w2 ⟨g, c, L, hz, hLn, hLm, hown, hlp, hw⟩; subst hz; have HLN := Lib.hid hLn; have HLM := Lib.hid hLm; have HOWN := Lib.hid hown; have HLP := Lib.hid hlp; have HB2 := Lib.hid (HB1.out.trans (hw.mono HB1.out.size)); have HER2 := Lib.hid (HER1.out.below hw); clear hLn hLm hown hlp hw)
  have HEX := Lib.hid (ER.lent HOWN.out HLP.out)
  have HEL := Lib.hid (show ER w2 (.slice (some ⟨g, 0, none⟩) n c) L by
    have h := er_take HEX.out (show n ≤ n + 12 by omega)
    rwa [List.take_left' HLN.out] at h)
  have HCP := Lib.hid (own_room HOWN.out)
  have hLp : ∀ p ∈ L, p.1.props.length ≤ 2000 := fun p hp => by
    have h1 : p.1 ∈ l.map (·.1) := by rw [← HLM.out]; exact List.mem_map_of_mem hp
    obtain ⟨p', hp', he⟩ := List.mem_map.1 h1
    rw [← he]
    exact HQ.out.2 p' hp'
  have HLQ := Lib.hid hLp
  have f30 := sort_any HEL.out (by rw [HLN.out]; omega) (fun p hp => Nat.le_trans (hLp p hp) (by omega))
  unfold SortR at f30
  rw [HLN.out] at f30
  have F30 := Lib.hid f30
  have f33 := fun W (hW : Below w2.heap.size w2 W) => keptX_any (HEX.out.below hW) HCP.out (fun p hp => (HLP.out p hp).below hW) HLM.out (HER2.out.below hW) HN.out (by omega) (fun p hp => Nat.le_trans (hLp p hp) (by omega))
  have F33 := Lib.hid f33
  clear f30 f33 hLp HEX HEL HOWN HLP
  go_upto_region 5 with (go_at_call 30; refine F30.out.mono ?_; clear F30; rintro z w3 ⟨v3, R3, hz, hRn, hst, hown, h53, hw⟩; subst hz; have HST := Lib.hid hst; have HO3 := Lib.hid hown; have H53 := Lib.hid h53; have HB3 := Lib.hid hw; have HRN := Lib.hid hRn; clear hst hown h53 hw hRn)
  have HE3 := Lib.hid (ER.of_own HO3.out (fun p hp => (H53.out p hp).pr))
  have HR3 := Lib.hid (show ∀ p ∈ R3, p.1.props.length ≤ 2000 from fun p hp => by
    have h1 : p.1 ∈ R3.map (·.1) := List.mem_map_of_mem hp
    have h2 : p.1 ∈ L.map (·.1) := by
      have h3 : p.1 ∈ lk cmpE p.1 (R3.map (·.1)) := List.mem_filter.2 ⟨h1, by simp [cm_edge.self]⟩
      rw [HST.out.eqv] at h3
      exact (List.mem_filter.1 h3).1
    obtain ⟨p', hp', he⟩ := List.mem_map.1 h2
    rw [← he]
    exact HLQ.out p' hp')
  have f32 := rSort_any (HER2.out.below HB3.out) (by rw [HN.out]; omega) (fun p hp => Nat.le_trans (HQ.out.2 p hp) (by omega))
  unfold RSortR at f32
  have F32 := Lib.hid f32
  clear f32
  go_upto_region 6 with (first
    | (go_at_call 32; refine F32.out.mono ?_; clear F32; rintro z w4 ⟨v4, R4, hz, hRn4, hst4, her4, hw⟩; subst hz; have HST4 := Lib.hid hst4; have HE4 := Lib.hid her4; have HB4 := Lib.hid (HB3.out.trans (hw.mono HB3.out.size)); have HE34 := Lib.hid (HE3.out.below hw); have HO4 := Lib.hid (own_below HO3.out hw); have H534 := Lib.hid (fun p hp => (H53.out p hp).below hw); clear hst4 her4 hw hRn4)
    | (go_at_call 31; refine (sameX_yes HE34.out HE4.out (HST.out.one (by rw [HLM.out]; exact HST4.out)) (fun p hp => Nat.le_trans (HR3.out p hp) (by omega)) (by rw [HRN.out]; omega)).mono ?_; rintro z w5 ⟨hz, hw⟩; subst hz; have HB5 := Lib.hid (HB4.out.trans (hw.mono HB4.out.size)); have HO5 := Lib.hid (own_below HO4.out hw); have H535 := Lib.hid (fun p hp => (H534.out p hp).below hw); clear hw)
    | (go_at_call 33; refine (F33.out _ HB5.out).mono ?_; rintro z w6 ⟨hz, hw⟩; subst hz; have HB6 := Lib.hid (HB5.out.trans (hw.mono HB5.out.size)); have HO6 := Lib.hid (own_below HO5.out hw); have H536 := Lib.hid (fun p hp => (H535.out p hp).below hw); clear hw))
  go_wp2_with (first
    | (go_at_call 34; refine (overX_any HO6.out H536.out (by omega) (fun p hp => Nat.le_trans (HR3.out p hp) (by omega)) HB6.out.size).mono ?_; rintro z w7 ⟨hz, hw⟩; subst hz; have HB7 := Lib.hid (HB6.out.trans hw); clear hw)
    | (go_at_call 33; refine (F33.out _ HB7.out).mono ?_; rintro z w8 ⟨hz, hw⟩; subst hz; have HB8 := Lib.hid (HB7.out.trans (hw.mono HB7.out.size)); clear hw)
    | (go_at_call 10; refine (awake_any _).mono ?_; rintro z w9 ⟨hz, hw⟩; subst hz; have HB9 := Lib.hid (HB8.out.trans (hw.mono HB8.out.size)); clear hw))
  go_ret
  exact ⟨rfl, HB2.out.trans (HB9.out.mono HB2.out.size)⟩
end Go.Proofs.Ytpoefcpgcojppaa

namespace Go.Proofs.Ytpoefcpgcojppaa
open Go.ChangeShapes Go.WideShapes Go.ChangeAt Go.RowKit
set_option linter.unusedVariables false

theorem tmod_or (x n : Int) (h : x < 0) (hn : 1 ≤ n) : (x.tmod n = 0 ∧ x % n = 0) ∨ (x.tmod n < 0 ∧ -n < x.tmod n ∧ x % n = x.tmod n + n) := by
  have e := Int.tmod_eq_emod (a := x) (b := n)
  have b1 := Int.emod_nonneg x (show n ≠ 0 by omega)
  have b2 := Int.emod_lt_of_pos x (show 0 < n by omega)
  by_cases hd : n ∣ x
  · rw [if_pos (.inr hd)] at e
    have := Int.emod_eq_zero_of_dvd hd
    omega
  · rw [if_neg (by rintro (h1 | h1); omega; exact hd h1)] at e
    have hne : x % n ≠ 0 := fun h0 => hd (Int.dvd_of_emod_eq_zero h0)
    have hab : (n.natAbs : Int) = n := by omega
    rw [hab] at e
    omega

theorem pick_any (x n : Int) (w : World) (n1 : 1 ≤ n) (n2 : n ≤ 1099511627776) :
    Calls Try.prog 36 #[.int .i64 x, .int .i64 n] w fun e w' => e = .returned (.int .i64 (x % n)) ∧ w' = w := by
  by_cases h0 : 0 ≤ x
  · have b1 := Int.emod_nonneg x (show n ≠ 0 by omega)
    have b2 := Int.emod_lt_of_pos x (show 0 < n by omega)
    go_enter Try.func36, Try.ntmps36
    go_wp2
    go_ret
    exact ⟨rfl, rfl⟩
  · rcases tmod_or x n (by omega) n1 with ⟨h1, h2⟩ | ⟨h1, h2, h3⟩
    · have H1 := Lib.hid h1
      have H2 := Lib.hid h2
      have h3 : 0 ≤ x.tmod n := by omega
      have h4 : x.tmod n ≤ 0 := by omega
      clear h1 h2
      go_enter Try.func36, Try.ntmps36
      go_wp2
      go_ret
      exact ⟨ret_int (by rw [H1.out, H2.out]), rfl⟩
    · have H3 := Lib.hid h3
      clear h3
      go_enter Try.func36, Try.ntmps36
      go_wp2
      go_ret
      exact ⟨ret_int (by rw [H3.out]), rfl⟩

set_option maxHeartbeats 4000000 in
set_option maxRecDepth 100000 in
theorem order_any {w : World} {v : Value} {l : List Ev} (turn : Int) (h : ER w v l) (hcap : CapOk v) (hl : l.length ≤ 281474976710656) (hp : ∀ p ∈ l, p.1.props.length ≤ 281474976710656) :
    Calls Try.prog 8 #[v, .int .i64 turn] w fun e w' => e = .returned (.bool true) ∧ Below w.heap.size w w' := by
  have H := Lib.hid h
  have HP := Lib.hid hp
  obtain ⟨A0, c0, rfl⟩ := h.form
  have hnc := hcap _ _ _ rfl
  obtain ⟨n, hn⟩ : ∃ n, l.length = n := ⟨_, rfl⟩
  have HN := Lib.hid hn
  have HCAP := Lib.hid hnc
  rw [hn] at H hl HCAP ⊢
  have f9 := fun W (hW : Below w.heap.size w W) => size_sum (H.out.below hW) (by rw [hn]; exact hl) hp
  unfold SizS at f9
  have F9 := Lib.hid f9
  clear h hp f9 hcap hnc hn
  go_enter Try.func8, Try.ntmps8
  go_wp2_with fail
  refine (awake_any _).mono ?_
  rintro z w0 ⟨hz, hw0⟩
  subst hz
  have HB0 := Lib.hid hw0
  clear hw0
  go_wp2_with fail
  refine (F9.out _ HB0.out).mono ?_
  clear F9
  rintro z w1 ⟨m, hz, hm1, hm0, hm2, hw⟩
  subst hz
  have HB1 := Lib.hid (HB0.out.trans (hw.below.mono HB0.out.size))
  clear hw
  by_cases hm : 250 < m
  · clear H HP HN
    go_wp2_with fail
    go_ret
    exact ⟨rfl, HB1.out⟩
  have hm4 := hm1 (by omega)
  have HQ := Lib.hid (show n ≤ 250 ∧ ∀ p ∈ l, p.1.props.length ≤ 250 from ⟨by have := HN.out; omega, fun p hp => by have := sumP_mem hp; omega⟩)
  clear hm1 hm4 hl
  have hn2 : n ≤ 250 := HQ.out.1
  have HER1 := Lib.hid (H.out.below HB1.out)
  go_wp2_with fail
  go_loopg [5, 6] n (fun g1 vb vi wr => ∃ (b : Bool) (i : Nat), vb = .bool b ∧ vi = .int .i64 i ∧ i ≤ n ∧ n ≤ g1 + i ∧ Hid ((b = false → ∀ i' (h1 : i' < l.length) k' (h2 : k' < l.length), i' < i → i' ≠ k' → cX l[i'] l[k'] ≠ 0) ∧ Below w1.heap.size w1 wr))
  case atStart => exact ⟨false, 0, rfl, rfl, Nat.zero_le _, by omega, fun _ i' h1 k' h2 h3 => absurd h3 (Nat.not_lt_zero _), Below.refl _ _⟩
  case round =>
    obtain ⟨b, i, rfl, rfl, hi, hg1, HI⟩ := hrel
    by_cases hlt : i < n
    · have hlti : (i : Int) < (n : Int) := by omega
      go_wp2_with fail
      go_loopg [5, 7] n (fun g2 vb vk wr => ∃ (b2 : Bool) (k : Nat), vb = .bool b2 ∧ vk = .int .i64 k ∧ k ≤ n ∧ n ≤ g2 + k ∧ Hid ((b2 = false → b = false ∧ ∀ (h1 : i < l.length) k' (h2 : k' < l.length), k' < k → i ≠ k' → cX l[i] l[k'] ≠ 0) ∧ Below w1.heap.size w1 wr))
      case atStart => exact ⟨b, 0, rfl, rfl, Nat.zero_le _, by omega, fun hb => ⟨hb, fun h1 k' h2 h3 => absurd h3 (Nat.not_lt_zero _)⟩, HI.out.2⟩
      case round =>
        obtain ⟨b2, k, rfl, rfl, hk, hg2, HK⟩ := hrel
        by_cases hltk : k < n
        · have hltki : (k : Int) < (n : Int) := by omega
          have e1 : i < l.length := by rw [HN.out]; exact hlt
          have e2 : k < l.length := by rw [HN.out]; exact hltk
          have hER := HER1.out.below HK.out.2
          obtain ⟨ad, f1, _, q0, q1, q2, q3, q4⟩ := hER.at4 e1
          subst f1
          obtain ⟨ad2, f2, _, r0, r1, r2, r3, r4⟩ := hER.at4 e2
          injection f2 with f2
          subst f2
          obtain ⟨x, hx⟩ : ∃ x, l[i]'e1 = x := ⟨_, rfl⟩
          obtain ⟨y, hy⟩ : ∃ y, l[k]'e2 = y := ⟨_, rfl⟩
          rw [hx] at q0 q1 q2 q3 q4
          rw [hy] at r0 r1 r2 r3 r4
          have HX := Lib.hid hx
          have HY := Lib.hid hy
          have hxy : i = k → x = y := fun e => by subst e; rw [← hx, ← hy]
          obtain ⟨x, pv⟩ := x
          obtain ⟨y, pw⟩ := y
          simp only at q0 q1 q2 q3 q4 r0 r1 r2 r3 r4
          obtain ⟨c, hc⟩ : ∃ c, cmpK x.key y.key = c := ⟨_, rfl⟩
          obtain ⟨d, hd⟩ : ∃ d, cmpK y.key x.key = d := ⟨_, rfl⟩
          have hcd : -d = c := by have := three_key.neg x.key y.key; omega
          have hrg : c = -1 ∨ c = 0 ∨ c = 1 := by have := three_key.rng x.key y.key; omega
          have hik0 : i = k → c = 0 := fun e => by
            have h0 := hxy e
            injection h0 with h0
            rw [← hc, h0]
            exact three_key.rfl' _
          have HC := Lib.hid hc
          obtain ⟨lkb, hlk⟩ : ∃ z, decide (c = 0) = z := ⟨_, rfl⟩
          have HLK := Lib.hid hlk
          have hc0 : (c == 0) = lkb := hlk
          have hwc : IntKind.i64.wrap c = c := by rw [IntKind.wrap_i64]; omega
          have hrx : ∀ dd os W, W = Sort.grow (redrawn wr dd) os → Below wr.heap.size wr W := fun dd os W e => by subst e; exact below_regrown wr dd os
          have cC := fun dd os => Calls.regrown_of (by have h := (compare_gr x.key y.key pv pw (Sort.grow (redrawn wr dd) os)).mono (fun e w' (h : _ ∧ _) => (⟨h.1, h.2.below⟩ : _ ∧ Below _ _ w')); rw [hc] at h; unfold eV Ed.key at h; exact h)
          simp only at cC
          have Q0 := cell_regrown q0; have Q1 := cell_regrown q1; have Q2 := cell_regrown q2; have Q3 := cell_regrown q3; have Q4 := cell_regrown q4
          have R0 := cell_regrown r0; have R1 := cell_regrown r1; have R2 := cell_regrown r2; have R3 := cell_regrown r3; have R4 := cell_regrown r4
          have HCC := Lib.hid (And.intro hc (And.intro hd hlk))
          have HXYE := Lib.hid hxy
          clear hx hy hxy hER q0 q1 q2 q3 q4 r0 r1 r2 r3 r4 hc hd hlk hrx
          go_upto_region 12 with (fail)
          refine wp_region_quiet_below (by kernel_rfl) (by kernel_rfl) ?_
          repeat (first | go_big_quiet_skip | (go_big_quiet_want; go_big_quiet_op; first | go_big_quiet_on | go_big_quiet_call (exact cC _ _)) | quiet_step (exact cC _ _))
          refine wpQuiet_nil ?_
          intro _ hw'
          obtain ⟨⟨dq, osq⟩, hw''⟩ := hw'
          subst hw''
          have HB2 := Lib.hid (HK.out.2.trans ((below_regrown wr dq osq).mono HK.out.2.size))
          clear cC Q0 Q1 Q2 Q3 Q4 R0 R1 R2 R3 R4
          generalize Sort.grow (redrawn wr dq) osq = wA at HB2 ⊢
          have hER2 := HER1.out.below HB2.out
          obtain ⟨ad9, f9, _, q0, q1, q2, q3, q4⟩ := hER2.at4 e1
          injection f9 with f9
          subst f9
          obtain ⟨ad9, f9, _, r0, r1, r2, r3, r4⟩ := hER2.at4 e2
          injection f9 with f9
          subst f9
          rw [HX.out] at q0 q1 q2 q3 q4
          rw [HY.out] at r0 r1 r2 r3 r4
          simp only at q0 q1 q2 q3 q4 r0 r1 r2 r3 r4
          have Q0 := cell_regrown q0; have Q1 := cell_regrown q1; have Q2 := cell_regrown q2; have Q3 := cell_regrown q3; have Q4 := cell_regrown q4
          have R0 := cell_regrown r0; have R1 := cell_regrown r1; have R2 := cell_regrown r2; have R3 := cell_regrown r3; have R4 := cell_regrown r4
          have cD := fun dd os => Calls.regrown_of (by have h := (compare_gr y.key x.key pw pv (Sort.grow (redrawn wA dd) os)).mono (fun e w' (h : _ ∧ _) => (⟨h.1, h.2.below⟩ : _ ∧ Below _ _ w')); rw [HCC.out.2.1] at h; unfold eV Ed.key at h; exact h)
          have cL := fun dd os => Calls.regrown_of (by have h := (like_gr x.key y.key pv pw (Sort.grow (redrawn wA dd) os)).mono (fun e w' (h : _ ∧ _) => (⟨h.1, h.2.below⟩ : _ ∧ Below _ _ w')); rw [HCC.out.1, HCC.out.2.2] at h; unfold eV Ed.key at h; exact h)
          simp only at cD cL
          clear q0 q1 q2 q3 q4 r0 r1 r2 r3 r4 hER2
          by_cases hik : i = k
          · have hcz := hik0 hik
            subst hcz
            have hlb : lkb = true := by rw [← HLK.out]; rfl
            subst hlb
            have hd0 : d = 0 := by omega
            subst hd0
            subst hik
            have hxe := HXYE.out rfl
            injection hxe with hx1 hx2
            subst hx1 hx2
            clear hik0 hrg hcd hc0 hwc R0 R1 R2 R3 R4 HXYE
            go_wp2_with fail
            refine wp_region_quiet_below (by kernel_rfl) (by kernel_rfl) ?_
            repeat (first | go_big_quiet_skip | (go_big_quiet_want; go_big_quiet_op; first | go_big_quiet_on | go_big_quiet_call (first | exact cD _ _ | exact cL _ _)) | quiet_step (first | exact cD _ _ | exact cL _ _))
            refine wpQuiet_nil ?_
            intro _ hw'
            obtain ⟨⟨dq, osq⟩, hw''⟩ := hw'
            subst hw''
            have HB3 := Lib.hid (HB2.out.trans ((below_regrown wA dq osq).mono HB2.out.size))
            clear cD cL Q0 Q1 Q2 Q3 Q4
            generalize Sort.grow (redrawn wA dq) osq = wB at HB3 ⊢
            cases b2 with
            | true =>
              go_wp2_with fail
              go_roundg (n - (i + 1))
              case measure => omega
              case rel => exact ⟨true, i + 1, rfl, by go_num, by omega, by omega, fun h => (by cases h), HB3.out⟩
            | false =>
              go_wp2_with fail
              go_roundg (n - (i + 1))
              case measure => omega
              case rel =>
                refine ⟨false, i + 1, rfl, by go_num, by omega, by omega, fun h => ⟨(HK.out.1 (by first | rfl | trivial)).1, fun h1 k' h2 h3 h4 => ?_⟩, HB3.out⟩
                exact (HK.out.1 (by first | rfl | trivial)).2 h1 k' h2 (by omega) h4
          · have hik2 : ((i : Int) == (k : Int)) = false := by rw [beq_eq_false_iff_ne]; omega
            have hik3 : ((i : Int) != (k : Int)) = true := by rw [bne_iff_ne]; omega
            have HIK := Lib.hid hik
            clear hik hik0 hrg
            go_wp2_with fail
            refine wp_region_quiet_below (by kernel_rfl) (by kernel_rfl) ?_
            repeat (first | go_big_quiet_skip | (go_big_quiet_want; go_big_quiet_op; first | go_big_quiet_on | go_big_quiet_call (first | exact cD _ _ | exact cL _ _)) | quiet_step (first | exact cD _ _ | exact cL _ _))
            refine wpQuiet_nil ?_
            intro _ hw'
            obtain ⟨⟨dq, osq⟩, hw''⟩ := hw'
            subst hw''
            have HB3 := Lib.hid (HB2.out.trans ((below_regrown wA dq osq).mono HB2.out.size))
            clear cD cL Q0 Q1 Q2 Q3 Q4 R0 R1 R2 R3 R4
            generalize Sort.grow (redrawn wA dq) osq = wB at HB3 ⊢
            cases b2 with
            | true =>
              go_wp2_with fail
              go_roundg (n - (k + 1))
              case measure => omega
              case rel => exact ⟨true, k + 1, rfl, by go_num, by omega, by omega, fun h => (by cases h), HB3.out⟩
            | false =>
              go_wp2_with fail
              go_roundg (n - (k + 1))
              case measure => omega
              case rel =>
                refine ⟨lkb, k + 1, rfl, by go_num, by omega, by omega, fun h => ⟨(HK.out.1 (by first | rfl | trivial)).1, fun h1 k' h2 h3 h4 => ?_⟩, HB3.out⟩
                by_cases e : k' = k
                · subst e
                  subst h
                  have h0 : ¬ c = 0 := of_decide_eq_false HLK.out
                  show cmpE (l[i]'h1).1 (l[k']'h2).1 ≠ 0
                  rw [show (l[i]'h1).1 = x by rw [HX.out], show (l[k']'h2).1 = y by rw [HY.out]]
                  show cmpK x.key y.key ≠ 0
                  rw [HC.out]
                  exact h0
                · exact (HK.out.1 (by first | rfl | trivial)).2 h1 k' h2 (by omega) h4
        · obtain rfl : k = n := by omega
          go_wp2_with fail
          go_roundg (k - (i + 1))
          case measure => omega
          case rel =>
            refine ⟨b2, i + 1, rfl, by go_num, by omega, by omega, fun hb i' h1 k' h2 h3 h4 => ?_, HK.out.2⟩
            by_cases e : i' = i
            · subst e
              exact (HK.out.1 hb).2 h1 k' h2 (by have := HN.out; omega) h4
            · exact HI.out.1 (HK.out.1 hb).1 i' h1 k' h2 (by omega) h4
    · obtain rfl : i = n := by omega
      have HLK := Lib.hid (show b = false → ∀ i' (h1 : i' < l.length) k' (h2 : k' < l.length), i' ≠ k' → cX l[i'] l[k'] ≠ 0 from fun hb i' h1 k' h2 h3 => HI.out.1 hb i' h1 k' h2 (by have := HN.out; omega) h3)
      have HB2 := Lib.hid HI.out.2
      clear HI
      obtain ⟨w2, hw2⟩ : ∃ W, W = wr := ⟨_, rfl⟩
      subst hw2
      have f30 := sort_any (HER1.out.below HB2.out) (by rw [HN.out]; omega) (fun p hp => Nat.le_trans (HQ.out.2 p hp) (by omega))
      unfold SortR at f30
      rw [HN.out] at f30
      have F30 := Lib.hid f30
      clear f30
      have hk0 := Int.emod_nonneg turn (show ((i : Int) + 1) ≠ 0 by omega)
      have hk1 := Int.emod_lt_of_pos turn (show 0 < ((i : Int) + 1) by omega)
      obtain ⟨k, hk⟩ : ∃ k : Nat, turn % ((i : Int) + 1) = (k : Int) := ⟨(turn % ((i : Int) + 1)).toNat, by omega⟩
      have HKK := Lib.hid hk
      have hki : k ≤ i := by omega
      clear hk0 hk1 hk
      go_upto_region 18 with (first
        | (go_at_call 30; refine F30.out.mono ?_; clear F30; rintro z w3 ⟨v3, R3, hz, hRn, hst, hown, h53, hw⟩; subst hz; have HST := Lib.hid hst; have HO3 := Lib.hid hown; have H53 := Lib.hid h53; have HB3 := Lib.hid (HB2.out.trans (hw.mono HB2.out.size)); have HRN := Lib.hid hRn; clear hst hown h53 hw hRn)
        | (go_at_call 36; refine (pick_any turn ((i : Int) + 1) _ (by omega) (by omega)).mono ?_; rintro z w4 ⟨hz, hw⟩; subst hz; subst hw; rw [HKK.out]))
      obtain ⟨i9, hi9, hz9, hs9, hb9⟩ := info_parts24
      obtain ⟨A3, c3, rfl⟩ := row_form4 HO3.out
      have HR4 := Lib.hid (HER1.out.below HB3.out)
      have HE3 := Lib.hid (ER.of_own HO3.out (fun p hp => (H53.out p hp).pr))
      clear HO3 H53
      go_cut [11] from 94 to 103 (fun t wc => ∃ (v7 : Value) (R7 : List Ev), t = v7 ∧ Hid (StaE ((l.drop k ++ l.take k).map (·.1)) (R7.map (·.1)) ∧ ER wc v7 R7 ∧ Below w4.heap.size w4 wc))
      case first =>
        have hbw : Below w4.heap.size w4 (w4.alloc (.cells #[] 24)).drew := ((Below.refl _ w4).alloc (Nat.le_refl _) _).drew
        have HBW := Lib.hid hbw
        have hro : (w4.alloc (.cells #[] 24)).drew.ownsRow w4.heap.size 24 5 (.slice (some ⟨w4.heap.size, 0, none⟩) 0 0) 0 [] := (World.ownsRow_lit w4 #[] 0 (Nat.le_refl _) (by unfold maxLen; omega) rfl).drew
        have HDL := Lib.hid (show (l.drop k).length = i - k by rw [List.length_drop, HN.out])
        have HTL := Lib.hid (show (l.take k).length = k by rw [List.length_take, HN.out]; omega)
        have b1 : (k : Int) ≤ (c0 : Int) := by have := HCAP.out.1; omega
        have b2 : (k : Int) ≤ (i : Int) := by omega
        cases A0 with
        | some ad =>
          have hpA := er_from (HR4.out.below HBW.out) hki HCAP.out.1
          go_region_law (first
            | (refine step_append_er rfl (.tmp 94) (.tmp 97) rfl (base := w4.heap.size) Try.underlying26 hi9 hz9 hs9 hb9 (v := .slice (some ⟨w4.heap.size, 0, none⟩) 0 0) (by simp [Act.eval, Act.put]) hro (v2 := .slice (if c0 = k then some ad else some (ad.add (k * 5))) (i - k) (c0 - k)) (by simp [Act.eval, Act.put]) hpA (by rw [HDL.out] <;> omega) (by simp) ?_; intro v5 w5 hown5 hgrow5 _; rw [HDL.out] at hown5; have HO5 := Lib.hid hown5; have HB5 := Lib.hid (show Below w4.heap.size w4 w5 from HBW.out.grown hgrow5 HBW.out.size (fun j e => by cases e; exact Nat.le_refl _)); have hpB := er_take (HR4.out.below HB5.out) hki; clear hown5 hgrow5)
            | (refine step_append_er rfl (.tmp 98) (.tmp 101) rfl (base := w4.heap.size) Try.underlying26 hi9 hz9 hs9 hb9 (v := v5) (by simp [Act.eval, Act.put]) HO5.out (v2 := .slice (some ad) k c0) (by simp [Act.eval, Act.put]) hpB (by rw [HTL.out] <;> omega) HB5.out.size ?_; intro v6 w6 hown6 hgrow6 _; rw [HTL.out] at hown6; have HO6 := Lib.hid hown6; have HB6 := Lib.hid (show Below w4.heap.size w4 w6 from HB5.out.grown hgrow6 HB5.out.size (fun j e => own_base HO5.out j e)); have HT6 := Lib.hid (show ER w6 v6 (l.drop k ++ l.take k) from ER.of_own (by rw [flatX_app]; exact HO6.out) (fun p hp => ((HR4.out.below HB6.out).each p (by rcases List.mem_append.1 hp with hp | hp; exact List.mem_of_mem_drop hp; exact List.mem_of_mem_take hp)))); clear hown6 hgrow6)
            | (go_simp; go_at_call 30; refine (sort_any HT6.out (by rw [List.length_append, HDL.out, HTL.out] <;> omega) (fun p hp => Nat.le_trans (HQ.out.2 p (by rcases List.mem_append.1 hp with hp | hp; exact List.mem_of_mem_drop hp; exact List.mem_of_mem_take hp)) (by omega))).mono ?_; rintro z w7 ⟨v7, R7, hz, hRn7, hst7, hown7, h537, hw7⟩; subst hz; have HST7 := Lib.hid hst7; have HE7 := Lib.hid (ER.of_own hown7 (fun p hp => (h537 p hp).pr)); have HB7 := Lib.hid (HB6.out.trans (hw7.mono HB6.out.size)); clear hst7 hown7 h537 hw7 hRn7))
          all_goals (try generalize (if c0 = k then some ad else some (ad.add (k * 5))) = AX)
          all_goals go_wp2_with fail
          all_goals go_meet
          case rel => exact ⟨v7, R7, rfl, HST7.out, HE7.out, HB7.out⟩
        | none =>
          have hc0 : c0 = 0 := HCAP.out.2 rfl
          subst hc0
          have hi0 : i = 0 := by have := HCAP.out.1; omega
          subst hi0
          have hk00 : k = 0 := by omega
          subst hk00
          have hpA : ER (w4.alloc (.cells #[] 24)).drew (.slice none 0 0) (l.drop 0) := by rw [List.drop_zero]; exact HR4.out.below HBW.out
          go_region_law (first
            | (refine step_append_er rfl (.tmp 94) (.tmp 97) rfl (base := w4.heap.size) Try.underlying26 hi9 hz9 hs9 hb9 (v := .slice (some ⟨w4.heap.size, 0, none⟩) 0 0) (by simp [Act.eval, Act.put]) hro (v2 := .slice none 0 0) (by simp [Act.eval, Act.put]) hpA (by rw [HDL.out] <;> omega) (by simp) ?_; intro v5 w5 hown5 hgrow5 _; rw [HDL.out] at hown5; have HO5 := Lib.hid hown5; have HB5 := Lib.hid (show Below w4.heap.size w4 w5 from HBW.out.grown hgrow5 HBW.out.size (fun j e => by cases e; exact Nat.le_refl _)); have hpB := er_take (HR4.out.below HB5.out) hki; clear hown5 hgrow5)
            | (refine step_append_er rfl (.tmp 98) (.tmp 101) rfl (base := w4.heap.size) Try.underlying26 hi9 hz9 hs9 hb9 (v := v5) (by simp [Act.eval, Act.put]) HO5.out (v2 := .slice none 0 0) (by simp [Act.eval, Act.put]) hpB (by rw [HTL.out] <;> omega) HB5.out.size ?_; intro v6 w6 hown6 hgrow6 _; rw [HTL.out] at hown6; have HO6 := Lib.hid hown6; have HB6 := Lib.hid (show Below w4.heap.size w4 w6 from HB5.out.grown hgrow6 HB5.out.size (fun j e => own_base HO5.out j e)); have HT6 := Lib.hid (show ER w6 v6 (l.drop 0 ++ l.take 0) from ER.of_own (by rw [flatX_app]; exact HO6.out) (fun p hp => ((HR4.out.below HB6.out).each p (by rcases List.mem_append.1 hp with hp | hp; exact List.mem_of_mem_drop hp; exact List.mem_of_mem_take hp)))); clear hown6 hgrow6)
            | (go_simp; go_at_call 30; refine (sort_any HT6.out (by rw [List.length_append, HDL.out, HTL.out] <;> omega) (fun p hp => Nat.le_trans (HQ.out.2 p (by rcases List.mem_append.1 hp with hp | hp; exact List.mem_of_mem_drop hp; exact List.mem_of_mem_take hp)) (by omega))).mono ?_; rintro z w7 ⟨v7, R7, hz, hRn7, hst7, hown7, h537, hw7⟩; subst hz; have HST7 := Lib.hid hst7; have HE7 := Lib.hid (ER.of_own hown7 (fun p hp => (h537 p hp).pr)); have HB7 := Lib.hid (HB6.out.trans (hw7.mono HB6.out.size)); clear hst7 hown7 h537 hw7 hRn7))
          all_goals (try generalize (if c0 = k then some ad else some (ad.add (k * 5))) = AX)
          all_goals go_wp2_with fail
          all_goals go_meet
          case rel => exact ⟨v7, R7, rfl, HST7.out, HE7.out, HB7.out⟩
      case rest =>
        obtain ⟨v7, R7, rfl, H7⟩ := hcut
        have HE3c := Lib.hid (HE3.out.below H7.out.2.2)
        have HERc := Lib.hid (HR4.out.below H7.out.2.2)
        have HWC := Lib.hid (show Below w1.heap.size w1 wc from HB3.out.trans (H7.out.2.2.mono HB3.out.size))
        clear HE3 HR4
        go_wp2_with fail
        go_loopw [12] (fun vj wr => ∃ j : Nat, vj = .int .i64 j ∧ 1 ≤ j ∧ j ≤ i + 1 ∧ Below wc.heap.size wc wr) (fun j _ => i + 1 - (Lib.intOf j).toNat)
        case atStart => exact ⟨1, rfl, Nat.le_refl _, by omega, Below.refl _ _⟩
        case round =>
          obtain ⟨j, rfl, hj1, hj2, hb⟩ := hrel
          have HB := Lib.hid hb
          clear hb
          by_cases hlt3 : j < i
          · have hj3 : (j : Int) < (i : Int) := by omega
            obtain ⟨jp, hjp⟩ : ∃ jp, j - 1 = jp := ⟨_, rfl⟩
            have e1 : jp < R3.length := by rw [HRN.out]; omega
            have e2 : j < R3.length := by rw [HRN.out]; omega
            have hER := HE3c.out.below HB.out
            obtain ⟨ad, f1, _, q0, q1, q2, q3, q4⟩ := hER.at4 e1
            subst f1
            obtain ⟨ad2, f2, _, r0, r1, r2, r3, r4⟩ := hER.at4 e2
            injection f2 with f2
            subst f2
            have hsrt := List.pairwise_iff_getElem.1 HST.out.srt jp j (by simpa using e1) (by simpa using e2) (by omega)
            simp only [List.getElem_map] at hsrt
            obtain ⟨x, hx⟩ : ∃ x, R3[jp]'e1 = x := ⟨_, rfl⟩
            obtain ⟨y, hy⟩ : ∃ y, R3[j]'e2 = y := ⟨_, rfl⟩
            rw [hx] at q0 q1 q2 q3 q4 hsrt
            rw [hy] at r0 r1 r2 r3 r4 hsrt
            obtain ⟨x, pv⟩ := x
            obtain ⟨y, pw⟩ := y
            simp only at q0 q1 q2 q3 q4 r0 r1 r2 r3 r4 hsrt
            obtain ⟨c, hc⟩ : ∃ c, cmpK x.key y.key = c := ⟨_, rfl⟩
            have hcle : c ≤ 0 := by rw [← hc]; exact hsrt
            have d1 : decide ((0 : Int) < c) = false := decide_eq_false (by omega)
            have d2 : ¬ (0 : Int) < c := by omega
            have d3 : (j : Int) - 1 = (jp : Int) := by omega
            have d4 : IntKind.i64.wrap (jp : Int) = (jp : Int) := by rw [IntKind.wrap_i64]; omega
            have d5 : (jp : Int) < (i : Int) := by omega
            have cC := fun dd os => Calls.regrown_of (by have h := (compare_gr x.key y.key pv pw (Sort.grow (redrawn wr dd) os)).mono (fun e w' (h : _ ∧ _) => (⟨h.1, h.2.below⟩ : _ ∧ Below _ _ w')); rw [hc] at h; unfold eV Ed.key at h; exact h)
            simp only at cC
            have Q0 := cell_regrown q0; have Q1 := cell_regrown q1; have Q2 := cell_regrown q2; have Q3 := cell_regrown q3; have Q4 := cell_regrown q4
            have R0 := cell_regrown r0; have R1 := cell_regrown r1; have R2 := cell_regrown r2; have R3' := cell_regrown r3; have R4 := cell_regrown r4
            clear hx hy hsrt hER q0 q1 q2 q3 q4 r0 r1 r2 r3 r4 hc hcle hjp
            go_upto_region 22 with (fail)
            refine wp_region_quiet_below (by kernel_rfl) (by kernel_rfl) ?_
            repeat (first | go_big_quiet_skip | (go_big_quiet_want; go_big_quiet_op; first | go_big_quiet_on | go_big_quiet_call (exact cC _ _)) | quiet_step (exact cC _ _))
            refine wpQuiet_nil ?_
            intro _ hw'
            obtain ⟨⟨dq, osq⟩, hw''⟩ := hw'
            subst hw''
            have HB2' := Lib.hid (HB.out.trans ((below_regrown wr dq osq).mono HB.out.size))
            clear cC Q0 Q1 Q2 Q3 Q4 R0 R1 R2 R3' R4 d3 d4
            generalize Sort.grow (redrawn wr dq) osq = wA at HB2' ⊢
            go_wp2_with fail
            go_roundw
            case rel => exact ⟨j + 1, by go_num, by omega, by omega, HB2'.out⟩
            case measure => simp [Lib.intOf]; omega
          · have hj3 : ¬ (j : Int) < (i : Int) := by omega
            obtain ⟨wL, hwL⟩ : ∃ W, W = wr := ⟨_, rfl⟩
            subst hwL
            go_wp2_with fail
            go_loopg [13] i (fun g3 vx wr => ∃ x : Nat, vx = .int .i64 x ∧ x ≤ i ∧ i ≤ g3 + x ∧ Hid (Below wc.heap.size wc wr))
            case atStart => exact ⟨0, rfl, Nat.zero_le _, by omega, HB.out⟩
            case round =>
              obtain ⟨x, rfl, hxi, hg3, HX⟩ := hrel
              by_cases hlt4 : x < i
              · have hx4 : (x : Int) < (i : Int) := by omega
                have e1 : x < l.length := by rw [HN.out]; exact hlt4
                have hmem : (l[x]'e1).1 ∈ R3.map (·.1) := by
                  have h1 : (l[x]'e1).1 ∈ l.map (·.1) := List.mem_map_of_mem (List.getElem_mem e1)
                  have h3 : (l[x]'e1).1 ∈ lk cmpE (l[x]'e1).1 (l.map (·.1)) := List.mem_filter.2 ⟨h1, by simp [cm_edge.self]⟩
                  rw [← HST.out.eqv] at h3
                  exact (List.mem_filter.1 h3).1
                obtain ⟨j0, hj0, hje⟩ := List.mem_iff_getElem.1 hmem
                rw [List.length_map] at hj0
                rw [List.getElem_map] at hje
                have HJ := Lib.hid hje
                have hj0i : j0 < i := by rw [← HRN.out]; exact hj0
                clear hmem hje
                go_wp2_with fail
                go_loopg [14, 15] i (fun g4 vf vq wr => ∃ (f : Bool) (q : Nat), vf = .bool f ∧ vq = .int .i64 q ∧ q ≤ i ∧ i ≤ g4 + q ∧ Hid ((f = false → q ≤ j0) ∧ Below wc.heap.size wc wr))
                case atStart => exact ⟨false, 0, rfl, rfl, Nat.zero_le _, by omega, fun _ => Nat.zero_le _, HX.out⟩
                case round =>
                  obtain ⟨f, q, rfl, rfl, hqi, hg4, HF⟩ := hrel
                  cases f with
                  | true =>
                    by_cases hq5 : q < i
                    · have hq6 : (q : Int) < (i : Int) := by omega
                      go_wp2_with fail
                      go_roundg (i - (x + 1))
                      case measure => omega
                      case rel => exact ⟨x + 1, by go_num, by omega, by omega, HF.out.2⟩
                    · have hq6 : ¬ (q : Int) < (i : Int) := by omega
                      go_wp2_with fail
                      go_roundg (i - (x + 1))
                      case measure => omega
                      case rel => exact ⟨x + 1, by go_num, by omega, by omega, HF.out.2⟩
                  | false =>
                    have hqj := HF.out.1 rfl
                    have hq6 : (q : Int) < (i : Int) := by omega
                    have e2 : q < R3.length := by rw [HRN.out]; omega
                    have hER := HERc.out.below HF.out.2
                    have hER3 := HE3c.out.below HF.out.2
                    obtain ⟨ad, f1, _, q0, q1, q2, q3, q4⟩ := hER.at4 e1
                    subst f1
                    obtain ⟨ad2, f2, _, r0, r1, r2, r3, r4⟩ := hER3.at4 e2
                    subst f2
                    have hpr1 := hER.each _ (List.getElem_mem e1)
                    have hpr2 := hER3.each _ (List.getElem_mem e2)
                    have hpl := HQ.out.2 _ (List.getElem_mem e1)
                    obtain ⟨x1, hx1⟩ : ∃ z, l[x]'e1 = z := ⟨_, rfl⟩
                    obtain ⟨y1, hy1⟩ : ∃ z, R3[q]'e2 = z := ⟨_, rfl⟩
                    rw [hx1] at q0 q1 q2 q3 q4 hpr1 hpl
                    rw [hy1] at r0 r1 r2 r3 r4 hpr2
                    have HX1 := Lib.hid hx1
                    have HY1 := Lib.hid hy1
                    obtain ⟨x1, pv⟩ := x1
                    obtain ⟨y1, pw⟩ := y1
                    simp only at q0 q1 q2 q3 q4 r0 r1 r2 r3 r4 hpr1 hpr2 hpl
                    obtain ⟨ss, hss⟩ : ∃ z, decide (x1 = y1) = z := ⟨_, rfl⟩
                    have HSS := Lib.hid hss
                    have cS := fun dd os => Calls.regrown_of (by have h := (sameE_any (x := x1) (y := y1) (hpr1.below (below_regrown wr dd os)) (hpr2.below (below_regrown wr dd os)) (Nat.le_trans hpl (by omega))).mono (fun e w' (h : _ ∧ _) => (⟨h.1, h.2.below⟩ : _ ∧ Below _ _ w')); rw [hss] at h; unfold Ed.v at h; exact h)
                    have Q0 := cell_regrown q0; have Q1 := cell_regrown q1; have Q2 := cell_regrown q2; have Q3 := cell_regrown q3; have Q4 := cell_regrown q4
                    have R0 := cell_regrown r0; have R1 := cell_regrown r1; have R2 := cell_regrown r2; have R3' := cell_regrown r3; have R4 := cell_regrown r4
                    clear hx1 hy1 hER hER3 hpr1 hpr2 hpl q0 q1 q2 q3 q4 r0 r1 r2 r3 r4 hss
                    go_upto_region 31 with (fail)
                    refine wp_region_quiet_below (by kernel_rfl) (by kernel_rfl) ?_
                    repeat (first | go_big_quiet_skip | (go_big_quiet_want; go_big_quiet_op; first | go_big_quiet_on | go_big_quiet_call (exact cS _ _)) | quiet_step (exact cS _ _))
                    refine wpQuiet_nil ?_
                    intro _ hw'
                    obtain ⟨⟨dq, osq⟩, hw''⟩ := hw'
                    subst hw''
                    have HB3' := Lib.hid (HF.out.2.trans ((below_regrown wr dq osq).mono HF.out.2.size))
                    clear cS Q0 Q1 Q2 Q3 Q4 R0 R1 R2 R3' R4
                    generalize Sort.grow (redrawn wr dq) osq = wA at HB3' ⊢
                    go_wp2_with fail
                    go_roundg (i - (q + 1))
                    case measure => omega
                    case rel =>
                      refine ⟨ss, q + 1, rfl, by go_num, by omega, by omega, fun hf => ?_, HB3'.out⟩
                      subst hf
                      have hne := of_decide_eq_false HSS.out
                      by_cases e : q = j0
                      · exfalso
                        subst e
                        have h1 := HJ.out
                        rw [HX1.out, HY1.out] at h1
                        exact hne h1.symm
                      · omega
              · obtain rfl : x = i := by omega
                have F31 := Lib.hid (fun (hb : b = false) W (hW : Below wc.heap.size wc W) => sameX_yes (HE3c.out.below hW) (H7.out.2.1.below hW) (HST.out.one (by
                  refine ⟨H7.out.1.srt, fun e => ?_⟩
                  rw [H7.out.1.eqv]
                  have hturn : lk cmpE e ((l.drop k).map (·.1) ++ (l.take k).map (·.1)) = lk cmpE e ((l.take k).map (·.1) ++ (l.drop k).map (·.1)) := (lk_turn cm_edge e _ _ (fun a ha b' hb' => by
                    obtain ⟨p, hp, rfl⟩ := List.mem_map.1 ha
                    obtain ⟨p', hp', rfl⟩ := List.mem_map.1 hb'
                    obtain ⟨a1, ha1, rfl⟩ := List.mem_iff_getElem.1 hp
                    obtain ⟨a2, ha2, rfl⟩ := List.mem_iff_getElem.1 hp'
                    rw [List.length_take] at ha1
                    rw [List.length_drop] at ha2
                    rw [List.getElem_take, List.getElem_drop]
                    exact HLK.out hb a1 (by omega) (k + a2) (by omega) (by omega))).symm
                  rw [List.map_append, hturn, ← List.map_append, List.take_append_drop])) (fun p hp => by
                    have h1 : p.1 ∈ R3.map (·.1) := List.mem_map_of_mem hp
                    have h2 : p.1 ∈ l.map (·.1) := by
                      have h3 : p.1 ∈ lk cmpE p.1 (R3.map (·.1)) := List.mem_filter.2 ⟨h1, by simp [cm_edge.self]⟩
                      rw [HST.out.eqv] at h3
                      exact (List.mem_filter.1 h3).1
                    obtain ⟨p', hp', he⟩ := List.mem_map.1 h2
                    rw [← he]
                    exact Nat.le_trans (HQ.out.2 p' hp') (by omega)) (by rw [HRN.out]; omega))
                cases b with
                | true =>
                  go_wp2_with fail
                  go_ret
                  exact ⟨rfl, HB1.out.trans ((HWC.out.trans (HX.out.mono HWC.out.size)).mono HB1.out.size)⟩
                | false =>
                  go_wp2_with (go_at_call 31; refine (F31.out rfl _ HX.out).mono ?_; rintro z w9 ⟨hz, hw9⟩; subst hz; have HB9 := Lib.hid (HX.out.trans (hw9.mono HX.out.size)); clear hw9)
                  go_ret
                  exact ⟨rfl, HB1.out.trans ((HWC.out.trans (HB9.out.mono HWC.out.size)).mono HB1.out.size)⟩
end Go.Proofs.Ytpoefcpgcojppaa

namespace Go.Proofs.Ytpoefcpgcojppaa
open Go.ChangeShapes Go.WideShapes Go.ChangeAt Go.RowKit Go.Deep Go.Joins
set_option linter.unusedVariables false

theorem own : ownKnob Try.prog.godebug = none := by kernel_rfl
theorem laidB : laidOutB Try.prog = true := by kernel_rfl
theorem cells3 : Try.prog.cellsOf 3 = 1 := by kernel_rfl
theorem cells5 : Try.prog.cellsOf 5 = 1 := by kernel_rfl
theorem cells9 : Try.prog.cellsOf 9 = 1 := by kernel_rfl
theorem cells22 : Try.prog.cellsOf 22 = 1 := by kernel_rfl
theorem cells24 : Try.prog.cellsOf 24 = 5 := by kernel_rfl
theorem cells31 : Try.prog.cellsOf 31 = 3 := by kernel_rfl
theorem cells53 : Try.prog.cellsOf 53 = 4 := by kernel_rfl
theorem read24 : Try.prog.readableRec 24 = true := by kernel_rfl
theorem read34 : Try.prog.readableRec 34 = true := by kernel_rfl
theorem lt24 : 24 < Try.prog.types.size := of_decide_eq_true (by kernel_rfl)
theorem lt34 : 34 < Try.prog.types.size := of_decide_eq_true (by kernel_rfl)
theorem bytes53 : Try.prog.bytesOf 53 = 48 := by kernel_rfl
theorem bytes5 : Try.prog.bytesOf 5 = 1 := by kernel_rfl
theorem cells29 : Try.prog.cellsOf 29 = 1 := by kernel_rfl
theorem weightsAll_mem {H : Type} {P : Program} {e : TypeId} : ∀ {ds : List (DataW H)} {d : DataW H} {n : Nat}, d ∈ ds → n ∈ d.weights P e → n ∈ DataW.weightsAll P e ds
  | x :: r, d, n, hd, hn => by
    simp only [DataW.weightsAll, List.mem_append]
    rcases List.mem_cons.1 hd with rfl | hd
    · exact .inl hn
    · exact .inr (weightsAll_mem hd hn)
theorem len3 {α : Type} {cs : List α} (h : cs.length = 3) : ∃ v0 v1 v2, cs = [v0, v1, v2] := by
  match cs, h with
  | [a, b, c], _ => exact ⟨a, b, c, rfl⟩
theorem len4 {α : Type} {cs : List α} (h : cs.length = 4) : ∃ v0 v1 v2 v3, cs = [v0, v1, v2, v3] := by
  match cs, h with
  | [a, b, c, d], _ => exact ⟨a, b, c, d, rfl⟩
theorem len5 {α : Type} {cs : List α} (h : cs.length = 5) : ∃ v0 v1 v2 v3 v4, cs = [v0, v1, v2, v3, v4] := by
  match cs, h with
  | [a, b, c, d, e], _ => exact ⟨a, b, c, d, e, rfl⟩

section
variable {H : Type} {enc : TypeId × Value → H} {P : Program} {w : World} {base : Nat} {spare : Nat → Bool} {held : Bool}
theorem trod_struct5 {t : TypeId} {f0 f1 f2 f3 f4 : Field} {fuel : Nat} {cs : List Value} {x : DataW H × List MemPlace} (ht : P.underlying t = some (.struct #[f0, f1, f2, f3, f4])) (h : DataW.trod enc P w base spare held fuel t cs = some x) :
    ∃ y0 y1 y2 y3 y4 n, x = (.agg [y0.1, y1.1, y2.1, y3.1, y4.1], y0.2 ++ (y1.2 ++ (y2.2 ++ (y3.2 ++ y4.2)))) ∧ cs.length = P.cellsOf t ∧ DataW.trod enc P w base spare held n f0.type ((cs.drop f0.offset).take (P.cellsOf f0.type)) = some y0 ∧
      DataW.trod enc P w base spare held n f1.type ((cs.drop f1.offset).take (P.cellsOf f1.type)) = some y1 ∧ DataW.trod enc P w base spare held n f2.type ((cs.drop f2.offset).take (P.cellsOf f2.type)) = some y2 ∧
      DataW.trod enc P w base spare held n f3.type ((cs.drop f3.offset).take (P.cellsOf f3.type)) = some y3 ∧ DataW.trod enc P w base spare held n f4.type ((cs.drop f4.offset).take (P.cellsOf f4.type)) = some y4 := by
  obtain ⟨xs, n, _, rfl, hl, hlen, hf⟩ := DataW.trod_struct ht h
  match xs, hlen with
  | [y0, y1, y2, y3, y4], _ => exact ⟨y0, y1, y2, y3, y4, n, by simp, hl, by simpa using hf 0 f0 rfl, by simpa using hf 1 f1 rfl, by simpa using hf 2 f2 rfl, by simpa using hf 3 f3 rfl, by simpa using hf 4 f4 rfl⟩
theorem array5 {α : Type} {cs : Array α} (h : cs.size = 5) : ∃ c0 c1 c2 c3 c4, cs = #[c0, c1, c2, c3, c4] := by
  obtain ⟨l⟩ := cs
  match l, h with
  | [c0, c1, c2, c3, c4], _ => exact ⟨c0, c1, c2, c3, c4, rfl⟩
theorem open_agg5 {r : Reach} {b0 : Nat} {t : TypeId} {f0 f1 f2 f3 f4 : Field} {v : Value} {d : DataW H} {p : List MemPlace} (hs : P.underlying t = some (.struct #[f0, f1, f2, f3, f4])) (hone : oneCellFields P #[f0, f1, f2, f3, f4] = true) (hC : P.cellsOf t = 5)
    (hv : Value.okWide P w r b0 t v) (h : DataW.Trod enc P w base spare held t v d p) :
    ∃ (v0 v1 v2 v3 v4 : Value) (y0 y1 y2 y3 y4 : DataW H × List MemPlace) (n : Nat), v = .agg #[v0, v1, v2, v3, v4] ∧ d = .agg [y0.1, y1.1, y2.1, y3.1, y4.1] ∧ p = y0.2 ++ (y1.2 ++ (y2.2 ++ (y3.2 ++ y4.2))) ∧
      DataW.trod enc P w base spare held n f0.type [v0] = some y0 ∧ DataW.trod enc P w base spare held n f1.type [v1] = some y1 ∧ DataW.trod enc P w base spare held n f2.type [v2] = some y2 ∧ DataW.trod enc P w base spare held n f3.type [v3] = some y3 ∧ DataW.trod enc P w base spare held n f4.type [v4] = some y4 := by
  obtain ⟨cs, rfl, hsz⟩ := okWide_struct hs hv
  obtain ⟨c0, c1, c2, c3, c4, rfl⟩ := array5 (hsz.trans hC)
  obtain ⟨fuel, hf⟩ := h
  obtain ⟨y0, y1, y2, y3, y4, n, hx, _, h0, h1, h2, h3, h4⟩ := trod_struct5 hs hf
  obtain ⟨o0, k0⟩ := hone_of hone 0 f0 rfl
  obtain ⟨o1, k1⟩ := hone_of hone 1 f1 rfl
  obtain ⟨o2, k2⟩ := hone_of hone 2 f2 rfl
  obtain ⟨o3, k3⟩ := hone_of hone 3 f3 rfl
  obtain ⟨o4, k4⟩ := hone_of hone 4 f4 rfl
  simp only [Prod.mk.injEq] at hx
  exact ⟨c0, c1, c2, c3, c4, y0, y1, y2, y3, y4, n, rfl, hx.1, hx.2, by simpa [Value.cells, o0, k0] using h0, by simpa [Value.cells, o1, k1] using h1, by simpa [Value.cells, o2, k2] using h2, by simpa [Value.cells, o3, k3] using h3, by simpa [Value.cells, o4, k4] using h4⟩
end

theorem PR.mk4 {w : World} {A : Option Addr} {c : Nat} {l : List Pt} (h : 0 < l.length → ∃ ad, A = some ad ∧ ad.block < w.heap.size ∧ ∀ k (hk : k < l.length), w.cell? (ad.add (k * 4)) = some (.string l[k].1) ∧ w.cell? (ad.add (k * 4 + 1)) = some (.int .i64 l[k].2.1) ∧ w.cell? (ad.add (k * 4 + 2)) = some (.int .i64 l[k].2.2.1) ∧ w.cell? (ad.add (k * 4 + 3)) = some (.string l[k].2.2.2)) : PR w (.slice A l.length c) l := by
  refine ⟨A, c, rfl, fun hn => ?_⟩
  obtain ⟨ad, h1, h2, h3⟩ := h hn
  refine ⟨ad, h1, h2, fun j u hj => ?_⟩
  have hlt := (List.getElem?_eq_some_iff.1 hj).1
  rw [flatP_len] at hlt
  have hk : j / 4 < l.length := by omega
  obtain ⟨e0, e1, e2, e3⟩ := h3 _ hk
  obtain ⟨f0, f1, f2, f3⟩ := flatP_at l _ hk
  have hr : j % 4 = 0 ∨ j % 4 = 1 ∨ j % 4 = 2 ∨ j % 4 = 3 := by omega
  rcases hr with hr | hr | hr | hr
  · have ej : j / 4 * 4 = j := by omega
    rw [ej] at f0 e0
    rw [f0] at hj
    injection hj with hj
    exact hj ▸ e0
  · have ej : j / 4 * 4 + 1 = j := by omega
    rw [ej] at f1 e1
    rw [f1] at hj
    injection hj with hj
    exact hj ▸ e1
  · have ej : j / 4 * 4 + 2 = j := by omega
    rw [ej] at f2 e2
    rw [f2] at hj
    injection hj with hj
    exact hj ▸ e2
  · have ej : j / 4 * 4 + 3 = j := by omega
    rw [ej] at f3 e3
    rw [f3] at hj
    injection hj with hj
    exact hj ▸ e3

theorem open_prop {H : Type} {enc : TypeId × Value → H} {w : World} {n : Nat} {ad : Addr} {cs : List Value} {x : DataW H × List MemPlace} (hc : w.cells? 0 ad 4 = some cs) (h : DataW.trod enc Try.prog w 0 (fun _ => true) true n 53 cs = some x) :
    ∃ y : Pt, (w.cell? (ad.add 0) = some (.string y.1) ∧ w.cell? (ad.add 1) = some (.int .i64 y.2.1) ∧ w.cell? (ad.add 2) = some (.int .i64 y.2.2.1) ∧ w.cell? (ad.add 3) = some (.string y.2.2.2)) ∧ ((∀ n ∈ x.1.weights Try.prog 53, n ≤ reachBytes) → y.1.size ≤ reachBytes ∧ y.2.2.2.size ≤ reachBytes) := by
  obtain ⟨y0, y1, k, hx, hl, h0, h1⟩ := trod_struct2 Try.underlying53 h
  obtain ⟨_, hlen, hcell⟩ := World.cells?_some hc
  obtain ⟨v0, v1, v2, v3, rfl⟩ : ∃ v0 v1 v2 v3, cs = [v0, v1, v2, v3] := len4 hlen
  have e0 := hcell 0 (by omega)
  have e1 := hcell 1 (by omega)
  have e2 := hcell 2 (by omega)
  have e3 := hcell 3 (by omega)
  simp only [cells9, cells31, List.drop_zero, List.drop_succ_cons, List.take_succ_cons, List.take_zero] at h0 h1
  obtain ⟨z0, z1, z2, k', hx1, hl1, g0, g1, g2⟩ := trod_struct3 Try.underlying31 h1
  simp only [cells3, cells9, cells29, List.drop_zero, List.drop_succ_cons, List.take_succ_cons, List.take_zero] at g0 g1 g2
  obtain ⟨s0, f0, t0, _⟩ := DataW.trod_string Try.underlying9 h0
  obtain ⟨k1, f1, t1, _⟩ := DataW.trod_int Try.underlying29 g0
  obtain ⟨k2, f2, t2, _⟩ := DataW.trod_int Try.underlying3 g1
  obtain ⟨s3, f3, t3, _⟩ := DataW.trod_string Try.underlying9 g2
  injection f0 with f0
  injection f1 with f1
  injection f2 with f2
  injection f3 with f3
  refine ⟨(s0, k1, k2, s3), ⟨?_, ?_, ?_, ?_⟩, fun hw => ⟨?_, ?_⟩⟩
  · rw [e0, ← f0]; rfl
  · rw [e1, ← f1]; rfl
  · rw [e2, ← f2]; rfl
  · rw [e3, ← f3]; rfl
  · have := hw s0.data.toList.length (by rw [hx]; simp [DataW.weights, Try.underlying53, DataW.weightsEach, t0])
    rw [Array.length_toList] at this
    exact this
  · have := hw s3.data.toList.length (by rw [hx, hx1]; simp [DataW.weights, Try.underlying53, Try.underlying31, DataW.weightsEach, t3])
    rw [Array.length_toList] at this
    exact this

theorem open_props {H : Type} {enc : TypeId × Value → H} {w : World} {n : Nat} {V : Value} {x : DataW H × List MemPlace} (h : DataW.trod enc Try.prog w 0 (fun _ => true) true n 22 [V] = some x) :
    ∃ l, PR w V l ∧ ((∀ n ∈ x.1.weights Try.prog 22, n ≤ reachBytes) → l.length ≤ reachBytes ∧ ∀ p ∈ l, p.1.size ≤ reachBytes ∧ p.2.2.2.size ≤ reachBytes) := by
  rcases open_slice Try.underlying22 h with ⟨hcs, hx⟩ | ⟨a, len, cap, m, n', D, Pl, hcs, _, hl, hm, hmm, hx, hi⟩
  · obtain rfl : V = .slice none 0 0 := by simpa using hcs
    exact ⟨[], PR.nil _ _ _, fun _ => ⟨Nat.zero_le _, fun p hp => by cases hp⟩⟩
  · obtain rfl : V = .slice (some a) len cap := by simpa using hcs
    simp only [if_true] at hmm
    subst hmm
    rw [cells53] at hi
    obtain ⟨Lf, hLf⟩ := choose_lt (α := Pt) (p := fun i y => (w.cell? (a.add (i * 4)) = some (.string y.1) ∧ w.cell? (a.add (i * 4 + 1)) = some (.int .i64 y.2.1) ∧ w.cell? (a.add (i * 4 + 2)) = some (.int .i64 y.2.2.1) ∧ w.cell? (a.add (i * 4 + 3)) = some (.string y.2.2.2)) ∧ ((∀ n ∈ (D i).weights Try.prog 53, n ≤ reachBytes) → y.1.size ≤ reachBytes ∧ y.2.2.2.size ≤ reachBytes)) (n := len)
      (fun i hi' => by
        obtain ⟨cs', h1, h2⟩ := hi i (by omega)
        obtain ⟨y, ⟨y1, y2, y3, y4⟩, y5⟩ := open_prop h1 h2
        rw [add_of_add] at y1 y2 y3 y4
        exact ⟨y, ⟨y1, y2, y3, y4⟩, y5⟩)
    have hlen : ((List.range len).map Lf).length = len := by simp
    refine ⟨(List.range len).map Lf, ?_, fun hw => ⟨?_, fun p hp => ?_⟩⟩
    · have := PR.mk4 (w := w) (A := some a) (c := m) (l := (List.range len).map Lf) (fun hn => ⟨a, rfl, ?_, fun k hk => ?_⟩)
      · rwa [hlen] at this
      · rw [hlen] at hn
        have := World.block_lt_of_cell? _ _ (hLf 0 hn).1.1
        rwa [block_add] at this
      · rw [hlen] at hk
        simp only [List.getElem_map, List.getElem_range]
        exact (hLf k hk).1
    · have h1 := hw ((((List.range len).map D).length + ((List.range (m - len)).map fun j => D (len + j)).length) * Try.prog.bytesOf 53) (by rw [hx]; simp [DataW.weights, Try.underlying22])
      rw [bytes53] at h1
      simp at h1
      rw [hlen]
      omega
    · obtain ⟨i, hi', rfl⟩ := List.mem_map.1 hp
      rw [List.mem_range] at hi'
      refine (hLf i hi').2 fun n hn => hw n ?_
      rw [hx]
      simp only [DataW.weights, Try.underlying22, List.mem_cons, List.mem_append]
      exact .inr (.inl (weightsAll_mem (List.mem_map.2 ⟨i, List.mem_range.2 hi', rfl⟩) hn))

def SzB (e : Ed) : Prop := e.src.size ≤ reachBytes ∧ e.dst.size ≤ reachBytes ∧ e.lab.size ≤ reachBytes ∧ e.props.length ≤ reachBytes ∧ ∀ p ∈ e.props, p.1.size ≤ reachBytes ∧ p.2.2.2.size ≤ reachBytes

set_option maxRecDepth 100000 in
/-- an edge among the arguments -/
theorem open_edge {H : Type} {enc : TypeId × Value → H} {W : World} {v : Value} {d : DataW H} {p : List MemPlace} {base : Nat} (hv : Value.okWide Try.prog W .any base 24 v) (h : DataW.Trod enc Try.prog W 0 (fun _ => true) true 24 v d p) :
    ∃ (x : Ed) (pv : Value), v = x.v pv ∧ PR W pv x.props ∧ ((∀ n ∈ d.weights Try.prog 24, n ≤ reachBytes) → SzB x) := by
  obtain ⟨v0, v1, v2, v3, v4, y0, y1, y2, y3, y4, n, rfl, rfl, rfl, h0, h1, h2, h3, h4⟩ := open_agg5 Try.underlying24 (by kernel_rfl) cells24 hv h
  obtain ⟨s0, f0, t0, _⟩ := DataW.trod_string Try.underlying9 h0
  obtain ⟨s1, f1, t1, _⟩ := DataW.trod_string Try.underlying9 h1
  obtain ⟨s2, f2, t2, _⟩ := DataW.trod_string Try.underlying9 h2
  obtain ⟨k3, f3, t3, _⟩ := DataW.trod_int Try.underlying3 h3
  obtain ⟨l, hl, hw4⟩ := open_props h4
  injection f0 with f0
  injection f1 with f1
  injection f2 with f2
  injection f3 with f3
  subst f0 f1 f2 f3
  refine ⟨⟨s0, s1, s2, k3, l⟩, v4, rfl, hl, fun hw => ?_⟩
  have hh4 := hw4 (fun n hn => hw n (by simp only [DataW.weights, Try.underlying24]; simp [DataW.weightsEach, hn]))
  refine ⟨?_, ?_, ?_, hh4.1, hh4.2⟩
  · have := hw s0.data.toList.length (by simp only [DataW.weights, Try.underlying24]; simp [DataW.weightsEach, t0, DataW.weights])
    rw [Array.length_toList] at this
    exact this
  · have := hw s1.data.toList.length (by simp only [DataW.weights, Try.underlying24]; simp [DataW.weightsEach, t1, DataW.weights])
    rw [Array.length_toList] at this
    exact this
  · have := hw s2.data.toList.length (by simp only [DataW.weights, Try.underlying24]; simp [DataW.weightsEach, t2, DataW.weights])
    rw [Array.length_toList] at this
    exact this
end Go.Proofs.Ytpoefcpgcojppaa

namespace Go.Proofs.Ytpoefcpgcojppaa
open Go.ChangeShapes Go.WideShapes Go.ChangeAt Go.RowKit Go.Deep Go.Joins
set_option linter.unusedVariables false

theorem open_bytes {H : Type} {enc : TypeId × Value → H} {w : World} {n : Nat} {V : Value} {x : DataW H × List MemPlace} (h : DataW.trod enc Try.prog w 0 (fun _ => true) true n 34 [V] = some x) :
    ∃ l, BR w V l ∧ CapOk V ∧ ((∀ n ∈ x.1.weights Try.prog 34, n ≤ reachBytes) → l.length ≤ reachBytes) := by
  rcases open_slice1 Try.underlying34 cells5 h with ⟨hcs, hx⟩ | ⟨a, len, cap, m, n', Vs, D, Pl, hcs, _, hl, hm, hmm, rfl, hx⟩
  · obtain rfl : V = .slice none 0 0 := by simpa using hcs
    exact ⟨[], BR.nil _ _ _, cap_nil, fun _ => Nat.zero_le _⟩
  · obtain rfl : V = .slice (some a) len cap := by simpa using hcs
    simp only [if_true] at hmm
    subst hmm
    obtain ⟨Lf, hLf⟩ := choose_lt (α := UInt8) (p := fun i b => Vs i = .int .u8 (b.toNat : Int)) (n := len) (fun i hi => by
      obtain ⟨k0, f0, g0, h0⟩ := DataW.trod_int Try.underlying5 (hx i (by omega)).2
      injection f0 with f0
      simp only [Lit.wf, Bool.and_eq_true, decide_eq_true_eq, show IntKind.u8.min = 0 from rfl, show IntKind.u8.max = 255 from rfl] at h0
      refine ⟨UInt8.ofNat k0.toNat, ?_⟩
      rw [f0, UInt8.toNat_ofNat']
      congr 1
      omega)
    have hlen : ((List.range len).map Lf).length = len := by simp
    refine ⟨(List.range len).map Lf, ⟨some a, m, by rw [hlen], fun hn => ⟨a, rfl, ?_, fun j u hj => ?_⟩⟩, ?_, fun hw => ?_⟩
    · rw [hlen] at hn
      have := World.block_lt_of_cell? _ _ (hx 0 (by omega)).1
      rwa [block_add] at this
    · have hj' := (List.getElem?_eq_some_iff.1 hj).1
      rw [byC_len, hlen] at hj'
      rw [(hx j (by omega)).1, hLf j hj', ← hj]
      simp [byC, hj']
    · intro A n c e
      injection e with e1 e2 e3
      subst e1 e2 e3
      exact ⟨hl, fun h => by cases h⟩
    · have h1 := hw (((List.map D (List.range len)).length + (List.map (fun j => D (len + j)) (List.range (m - len))).length) * Try.prog.bytesOf 5) (by simp [DataW.weights, Try.underlying34])
      rw [bytes5] at h1
      simp at h1
      rw [hlen]
      omega

/-- arguments that are only read, a plain result -/
theorem post_read {H : Type} {enc : TypeId × Value → H} {P : Program} {f : Func} {s : ChangeSpec} {W W' : World} {args : Array Value} {v : Value} {ds gs : List (DataW H)} {before pa pv : List MemPlace}
    (hW : DataW.Whole enc P f.params.toList s.vars false W args.toList ds gs before)
    (hres : ∀ (b : Nat) (sp : Nat → Bool) (hd : Bool), DataW.TrodAll enc P W' b sp hd f.resultTypes.toList (v.resultList f.resultTypes.size) (s.fn H (ds ++ gs)).results [])
    (hargs : DataW.TrodAll enc P W' 0 (fun b => decide (b < W.heap.size)) true f.params.toList args.toList (s.fn H (ds ++ gs)).args pa)
    (hvars : DataW.TrodVars enc P W' (fun b => decide (b < W.heap.size)) s.vars (s.fn H (ds ++ gs)).vars pv)
    (hps : before = pa ++ pv) (hb : Below W.heap.size W W') : s.post enc P f false true false false W args v W' := by
  refine ⟨ds, gs, before, [], pa, pv, hW, hres _ _ _, hargs, hvars, World.keptBut_mono (fun p hp => ⟨hp, ?_⟩) (hb.frame (· ∈ before)), fun h => by cases h⟩
  rw [hps, List.mem_append] at hp
  exact .inr hp
theorem sz_of {e : Ed} (h : SzB e) : SzE e := by
  have hr := reachBytes_lt
  obtain ⟨h1, h2, h3, h4, h5⟩ := h
  exact ⟨by omega, by omega, by omega, by omega, fun p hp => ⟨by have := (h5 p hp).1; omega, by have := (h5 p hp).2; omega⟩⟩
end Go.Proofs.Ytpoefcpgcojppaa

namespace Go.Proofs.Ytpoefcpgcojppaa
open Go.ChangeShapes Go.WideShapes Go.ChangeAt Go.RowKit Go.Deep Go.Joins
set_option linter.unusedVariables false

theorem read26 : Try.prog.readableRec 26 = true := by kernel_rfl
theorem lt26 : 26 < Try.prog.types.size := of_decide_eq_true (by kernel_rfl)
theorem bytes24 : Try.prog.bytesOf 24 = 80 := by kernel_rfl
theorem cells26 : Try.prog.cellsOf 26 = 1 := by kernel_rfl

theorem ER.mk5 {w : World} {A : Option Addr} {c : Nat} {l : List Ev} (h : 0 < l.length → ∃ ad, A = some ad ∧ ad.block < w.heap.size ∧ ∀ k (hk : k < l.length), w.cell? (ad.add (k * 5)) = some (.string l[k].1.src) ∧ w.cell? (ad.add (k * 5 + 1)) = some (.string l[k].1.dst) ∧ w.cell? (ad.add (k * 5 + 2)) = some (.string l[k].1.lab) ∧ w.cell? (ad.add (k * 5 + 3)) = some (.int .i64 l[k].1.time) ∧ w.cell? (ad.add (k * 5 + 4)) = some l[k].2) (he : ∀ p ∈ l, PR w p.2 p.1.props) : ER w (.slice A l.length c) l := by
  refine ⟨⟨A, c, rfl, fun hn => ?_⟩, he⟩
  obtain ⟨ad, h1, h2, h3⟩ := h hn
  refine ⟨ad, h1, h2, fun j u hj => ?_⟩
  have hlt := (List.getElem?_eq_some_iff.1 hj).1
  rw [flatX_len] at hlt
  have hk : j / 5 < l.length := by omega
  obtain ⟨e0, e1, e2, e3, e4⟩ := h3 _ hk
  obtain ⟨f0, f1, f2, f3, f4⟩ := flatX_at l _ hk
  have hr : j % 5 = 0 ∨ j % 5 = 1 ∨ j % 5 = 2 ∨ j % 5 = 3 ∨ j % 5 = 4 := by omega
  rcases hr with hr | hr | hr | hr | hr
  · have ej : j / 5 * 5 = j := by omega
    rw [ej] at f0 e0
    rw [f0] at hj
    injection hj with hj
    exact hj ▸ e0
  · have ej : j / 5 * 5 + 1 = j := by omega
    rw [ej] at f1 e1
    rw [f1] at hj
    injection hj with hj
    exact hj ▸ e1
  · have ej : j / 5 * 5 + 2 = j := by omega
    rw [ej] at f2 e2
    rw [f2] at hj
    injection hj with hj
    exact hj ▸ e2
  · have ej : j / 5 * 5 + 3 = j := by omega
    rw [ej] at f3 e3
    rw [f3] at hj
    injection hj with hj
    exact hj ▸ e3
  · have ej : j / 5 * 5 + 4 = j := by omega
    rw [ej] at f4 e4
    rw [f4] at hj
    injection hj with hj
    exact hj ▸ e4

set_option maxRecDepth 100000 in
theorem open_cells5 {H : Type} {enc : TypeId × Value → H} {w : World} {n : Nat} {ad : Addr} {cs : List Value} {x : DataW H × List MemPlace} (hc : w.cells? 0 ad 5 = some cs) (h : DataW.trod enc Try.prog w 0 (fun _ => true) true n 24 cs = some x) :
    ∃ y : Ev, (w.cell? (ad.add 0) = some (.string y.1.src) ∧ w.cell? (ad.add 1) = some (.string y.1.dst) ∧ w.cell? (ad.add 2) = some (.string y.1.lab) ∧ w.cell? (ad.add 3) = some (.int .i64 y.1.time) ∧ w.cell? (ad.add 4) = some y.2) ∧ PR w y.2 y.1.props ∧ ((∀ n ∈ x.1.weights Try.prog 24, n ≤ reachBytes) → SzB y.1) := by
  obtain ⟨y0, y1, y2, y3, y4, k, hx, hl, h0, h1, h2, h3, h4⟩ := trod_struct5 Try.underlying24 h
  obtain ⟨_, hlen, hcell⟩ := World.cells?_some hc
  obtain ⟨v0, v1, v2, v3, v4, rfl⟩ : ∃ v0 v1 v2 v3 v4, cs = [v0, v1, v2, v3, v4] := len5 hlen
  have e0 := hcell 0 (by omega)
  have e1 := hcell 1 (by omega)
  have e2 := hcell 2 (by omega)
  have e3 := hcell 3 (by omega)
  have e4 := hcell 4 (by omega)
  simp only [cells9, cells3, cells22, List.drop_zero, List.drop_succ_cons, List.take_succ_cons, List.take_zero] at h0 h1 h2 h3 h4
  obtain ⟨s0, f0, t0, _⟩ := DataW.trod_string Try.underlying9 h0
  obtain ⟨s1, f1, t1, _⟩ := DataW.trod_string Try.underlying9 h1
  obtain ⟨s2, f2, t2, _⟩ := DataW.trod_string Try.underlying9 h2
  obtain ⟨k3, f3, t3, _⟩ := DataW.trod_int Try.underlying3 h3
  obtain ⟨l, hpr, hw4⟩ := open_props h4
  injection f0 with f0
  injection f1 with f1
  injection f2 with f2
  injection f3 with f3
  refine ⟨(⟨s0, s1, s2, k3, l⟩, v4), ⟨?_, ?_, ?_, ?_, ?_⟩, hpr, fun hw => ?_⟩
  · rw [e0, ← f0]; rfl
  · rw [e1, ← f1]; rfl
  · rw [e2, ← f2]; rfl
  · rw [e3, ← f3]; rfl
  · rw [e4]; rfl
  · rw [hx] at hw
    have hh4 := hw4 (fun n hn => hw n (by simp only [DataW.weights, Try.underlying24]; simp [DataW.weightsEach, hn]))
    refine ⟨?_, ?_, ?_, hh4.1, hh4.2⟩
    · have := hw s0.data.toList.length (by simp only [DataW.weights, Try.underlying24]; simp [DataW.weightsEach, t0, DataW.weights])
      rw [Array.length_toList] at this
      exact this
    · have := hw s1.data.toList.length (by simp only [DataW.weights, Try.underlying24]; simp [DataW.weightsEach, t1, DataW.weights])
      rw [Array.length_toList] at this
      exact this
    · have := hw s2.data.toList.length (by simp only [DataW.weights, Try.underlying24]; simp [DataW.weightsEach, t2, DataW.weights])
      rw [Array.length_toList] at this
      exact this

theorem open_edges {H : Type} {enc : TypeId × Value → H} {w : World} {n : Nat} {V : Value} {x : DataW H × List MemPlace} (h : DataW.trod enc Try.prog w 0 (fun _ => true) true n 26 [V] = some x) :
    ∃ l : List Ev, ER w V l ∧ ((∀ n ∈ x.1.weights Try.prog 26, n ≤ reachBytes) → l.length ≤ reachBytes ∧ ∀ p ∈ l, SzB p.1) := by
  rcases open_slice Try.underlying26 h with ⟨hcs, hx⟩ | ⟨a, len, cap, m, n', D, Pl, hcs, _, hl, hm, hmm, hx, hi⟩
  · obtain rfl : V = .slice none 0 0 := by simpa using hcs
    exact ⟨[], ⟨⟨none, 0, rfl, fun h0 => absurd h0 (by simp)⟩, by simp⟩, fun _ => ⟨Nat.zero_le _, fun p hp => by cases hp⟩⟩
  · obtain rfl : V = .slice (some a) len cap := by simpa using hcs
    simp only [if_true] at hmm
    subst hmm
    rw [cells24] at hi
    have hch : ∀ i, i < len → ∃ y : Ev, (w.cell? (a.add (i * 5)) = some (.string y.1.src) ∧ w.cell? (a.add (i * 5 + 1)) = some (.string y.1.dst) ∧ w.cell? (a.add (i * 5 + 2)) = some (.string y.1.lab) ∧ w.cell? (a.add (i * 5 + 3)) = some (.int .i64 y.1.time) ∧ w.cell? (a.add (i * 5 + 4)) = some y.2) ∧ PR w y.2 y.1.props ∧ ((∀ n ∈ (D i).weights Try.prog 24, n ≤ reachBytes) → SzB y.1) := fun i hi' => by
      obtain ⟨cs', h1, h2⟩ := hi i (by omega)
      obtain ⟨y, ⟨y1, y2, y3, y4, y5⟩, y6, y7⟩ := open_cells5 h1 h2
      rw [add_of_add] at y1 y2 y3 y4 y5
      exact ⟨y, ⟨y1, y2, y3, y4, y5⟩, y6, y7⟩
    let Lf : Nat → Ev := fun i => if h : i < len then (hch i h).choose else (⟨⟨#[]⟩, ⟨#[]⟩, ⟨#[]⟩, 0, []⟩, .slice none 0 0)
    have hLf : ∀ i, i < len → (w.cell? (a.add (i * 5)) = some (.string (Lf i).1.src) ∧ w.cell? (a.add (i * 5 + 1)) = some (.string (Lf i).1.dst) ∧ w.cell? (a.add (i * 5 + 2)) = some (.string (Lf i).1.lab) ∧ w.cell? (a.add (i * 5 + 3)) = some (.int .i64 (Lf i).1.time) ∧ w.cell? (a.add (i * 5 + 4)) = some (Lf i).2) ∧ PR w (Lf i).2 (Lf i).1.props ∧ ((∀ n ∈ (D i).weights Try.prog 24, n ≤ reachBytes) → SzB (Lf i).1) := fun i h => by
      show _ ∧ _
      simp only [Lf, dif_pos h]
      exact (hch i h).choose_spec
    have hlen : ((List.range len).map Lf).length = len := by simp
    refine ⟨(List.range len).map Lf, ?_, fun hw => ⟨?_, fun p hp => ?_⟩⟩
    · have := ER.mk5 (w := w) (A := some a) (c := m) (l := (List.range len).map Lf) (fun hn => ⟨a, rfl, ?_, fun k hk => ?_⟩) (fun p hp => ?_)
      · rwa [hlen] at this
      · rw [hlen] at hn
        have := World.block_lt_of_cell? _ _ (hLf 0 hn).1.1
        rwa [block_add] at this
      · rw [hlen] at hk
        simp only [List.getElem_map, List.getElem_range]
        exact (hLf k hk).1
      · obtain ⟨i, hi', rfl⟩ := List.mem_map.1 hp
        exact (hLf i (List.mem_range.1 hi')).2.1
    · have h1 := hw ((((List.range len).map D).length + ((List.range (m - len)).map fun j => D (len + j)).length) * Try.prog.bytesOf 24) (by rw [hx]; simp [DataW.weights, Try.underlying26])
      rw [bytes24] at h1
      simp at h1
      rw [hlen]
      omega
    · obtain ⟨i, hi', rfl⟩ := List.mem_map.1 hp
      rw [List.mem_range] at hi'
      refine (hLf i hi').2.2 fun n hn => hw n ?_
      rw [hx]
      simp only [DataW.weights, Try.underlying26, List.mem_cons, List.mem_append]
      exact .inr (.inl (weightsAll_mem (List.mem_map.2 ⟨i, List.mem_range.2 hi', rfl⟩) hn))
end Go.Proofs.Ytpoefcpgcojppaa
