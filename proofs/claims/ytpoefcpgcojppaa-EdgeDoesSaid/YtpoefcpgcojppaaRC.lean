/- The kit's marks; bytes lent, and that they stay as they were. -/
import Derived.Test.YtpoefcpgcojppaaPI
import Derived.BigQuiet
import Derived.Laws.MakeOwn
import Derived.RangeFuncBox
namespace Go.Proofs.Ytpoefcpgcojppaa
open Go.ChangeShapes Go.WideShapes Go.ChangeAt Go.RowKit
set_option linter.unusedVariables false

theorem row_form4 {w : World} {base e size n : Nat} {v : Value} {xs : List Value} (h : w.ownsRow base e size v n xs) : ∃ A c, v = .slice A n c := by
  rcases h.2 with ⟨rfl, rfl⟩ | ⟨g, cap, cur, rfl, _⟩
  · exact ⟨_, _, rfl⟩
  · exact ⟨_, _, rfl⟩
theorem own_room {w : World} {base e sz n c : Nat} {A : Option Addr} {xs : List Value} (h : w.ownsRow base e sz (.slice A n c) n xs) : n ≤ c := by
  rcases h.2 with ⟨e0, h0⟩ | ⟨g, cap, cur, e0, _, _, h1, _⟩
  · omega
  · injection e0 with e1 e2 e3
    omega

/-- the mark of a place -/
def mB (i : Nat) : UInt8 := UInt8.ofNat ((8000024 + i) * 11400714819323198485 % 18446744073709551616 / 72057594037927936)
def mksB : List UInt8 := (List.range 12).map mB
theorem mksB_len : mksB.length = 12 := by simp [mksB]
theorem mksB_get (k : Nat) (h : k < mksB.length) : mksB[k] = mB k := by simp [mksB]
theorem mark_any (i : Int) (w : World) (h0 : 0 ≤ i) (h1 : i ≤ 100000) : Calls Try.prog 79 #[.int .i64 1, .int .i64 i] w fun e w' => e = .returned (.int .i64 (8000024 + i)) ∧ w = w' := by
  have hwr : IntKind.i64.wrap (8000024 + i) = 8000024 + i := by rw [IntKind.wrap_i64]; omega
  go_enter Try.func79, Try.ntmps79
  go_wp2
  go_ret
  exact ⟨rfl, rfl⟩
theorem markByte_any (i : Nat) (w : World) (hi : i < 12) : Calls Try.prog 56 #[.int .i64 1, .int .i64 i] w fun e w' => e = .returned (.int .u8 ((mB i).toNat : Int)) ∧ w = w' := by
  have h : i = 0 ∨ i = 1 ∨ i = 2 ∨ i = 3 ∨ i = 4 ∨ i = 5 ∨ i = 6 ∨ i = 7 ∨ i = 8 ∨ i = 9 ∨ i = 10 ∨ i = 11 := by omega
  rcases h with rfl | rfl | rfl | rfl | rfl | rfl | rfl | rfl | rfl | rfl | rfl | rfl <;>
    (go_enter Try.func56, Try.ntmps56
     go_wp2_with (go_at_call 79; refine (mark_any _ _ (by decide) (by decide)).mono ?_; rintro e w' ⟨hx, hw⟩; subst hx; subst hw)
     go_ret
     exact ⟨rfl, rfl⟩)

/-- bytes that are lent: a copy, with marks behind it -/
def LentR (l : List UInt8) (w : World) (e : Ending) (w' : World) : Prop :=
  ∃ g c, e = .returned (.slice (some ⟨g, 0, none⟩) l.length c) ∧ w'.ownsRow w.heap.size 5 1 (.slice (some ⟨g, 0, none⟩) (l.length + 12) c) (l.length + 12) (byC (l ++ mksB)) ∧ Below w.heap.size w w'

set_option maxHeartbeats 1000000 in
theorem lent_any (v : Value) (l : List UInt8) (w : World) (hv : BR w v l) (hll : l.length ≤ 1000000) : Calls Try.prog 24 #[v] w (LentR l w) := by
  obtain ⟨i9, hi9, hz9, hs9, hb9⟩ := info_parts5
  have HV := Lib.hid hv
  obtain ⟨A, c, rfl, hv2⟩ := hv
  clear hv2
  obtain ⟨M, hM⟩ : ∃ M, M = madeCells (Value.int .u8 0).cells ((l.length + 12) * i9.size) := ⟨_, rfl⟩
  have hMs : M.size = (l.length + 12) * 1 := by rw [hM, size_madeCells, hs9]
  have eN : ((l.length : Int) + 12).toNat = l.length + 12 := by omega
  have hmk : ∀ W : World, (Instr.makeSlice 34 (.int .i64 0) (.int .i64 ((l.length : Int) + 12))).run Try.prog W = .ok (.slice (some ⟨W.heap.size, 0, none⟩) 0 (l.length + 12)) (W.alloc (.cells M 5)) := fun W => by
    have h := run_make (P := Try.prog) W 34 5 i9 (.int .u8 0) Try.underlying34 hi9 hz9 .i64 .i64 0 ((l.length : Int) + 12) (by omega) (by omega) (by rw [hb9]; omega) (by omega)
    rw [eN, ← hM] at h
    simpa using h
  have HMS := Lib.hid hMs
  clear hM hMs eN
  go_enter Try.func24, Try.ntmps24
  go_wp2_with (at_builtin; refine wpList_append_br (v := .slice (some ⟨w.heap.size, 0, none⟩) 0 (l.length + 12)) rfl _ _ rfl Try.underlying34 hi9 hz9 hs9 hb9 rfl (World.ownsRow_made (base := w.heap.size) (size := 1) w M (l.length + 12) (Nat.le_refl _) (by unfold maxLen; omega) HMS.out) rfl (HV.out.below ((Below.refl _ _).alloc (Nat.le_refl _) _)) (by omega) (by simp) ?_; intro mv w1 hown1 hgrow1 hloc1; obtain ⟨Am, cm, rfl⟩ := row_form4 hown1)
  have hB1 : Below w.heap.size w w1 := ((Below.refl _ w).alloc (Nat.le_refl _) _).grown hgrow1 (by simp) (fun k hk => by simp [Value.ownBlock] at hk; omega)
  have HB1 := Lib.hid hB1
  have HOWN1 := Lib.hid hown1
  clear hgrow1 hloc1 hown1 hB1 hmk
  go_loopw [3, 4] (fun v i wr => ∃ k : Nat, k ≤ 12 ∧ i = .int .i64 k ∧ wr.ownsRow w.heap.size 5 1 v (l.length + k) (byC (l ++ mksB.take k)) ∧ Below w.heap.size w wr) (fun _ i _ => 12 - (Lib.intOf i).toNat)
  case atStart => exact ⟨0, Nat.zero_le _, rfl, by simpa using HOWN1.out, HB1.out⟩
  case round =>
    obtain ⟨k, hk, rfl, hrow, hbe⟩ := hrel
    have HROW := Lib.hid hrow
    have HBE := Lib.hid hbe
    have hzr := hbe.size
    by_cases hlt : k < 12
    · have hk12 : (k : Int) < 12 := by omega
      clear hrow hbe
      go_wp2_with fail
      refine (markByte_any k _ hlt).mono ?_
      rintro e w2 ⟨rfl, rfl⟩
      obtain ⟨t, ht⟩ : ∃ t, mB k = t := ⟨_, rfl⟩
      have HT := Lib.hid ht
      rw [ht]
      have hrow2 := HROW.out
      clear ht
      go_wp2_with (at_builtin; refine wpList_append_own_at _ rfl _ _ 34 rfl w.heap.size 5 i9 (.int .u8 0) 1 1 Try.underlying34 hi9 hz9 hs9 hb9 rfl (by decide) _ _ _ rfl (hrow2.alloc _) ⟨wr.heap.size, 0, none⟩ 1 1 [.int .u8 (t.toNat : Int)] rfl rfl (cell_one_new _ _ _) (by simp [Value.oneCell']) (by unfold maxLen; omega) (by omega) (by simp; omega) ?_; intro v' w4 hown' hgrow hnil hloc)
      go_roundw
      case rel =>
        refine ⟨k + 1, by omega, by go_num, ?_, ?_⟩
        · rw [List.take_succ_eq_append_getElem (by rw [mksB_len]; exact hlt), mksB_get, HT.out, ← List.append_assoc, byC_app, ← Nat.add_assoc]
          exact hown'
        · exact (HBE.out.alloc (by omega) _).grown hgrow (by simp; omega) (fun g hg => own_base hrow2 g hg)
      case measure => simp [Lib.intOf]; omega
    · obtain rfl : k = 12 := by omega
      rw [List.take_of_length_le (by rw [mksB_len]; exact Nat.le_refl _)] at hrow
      obtain ⟨g, cap, rfl⟩ := ownsRow_succ (k := l.length + 11) hrow
      have hcap := own_room hrow
      have hc2 : l.length ≤ cap := by omega
      have HR2 := Lib.hid hrow
      clear hrow hbe
      go_wp2_with fail
      go_ret
      exact ⟨g, cap, rfl, HR2.out, HBE.out⟩

set_option maxHeartbeats 2000000 in
theorem kept_any {w : World} {base g c : Nat} (l : List UInt8) (v : Value) (hrow : w.ownsRow base 5 1 (.slice (some ⟨g, 0, none⟩) (l.length + 12) c) (l.length + 12) (byC (l ++ mksB))) (hv : BR w v l) (hl : l.length ≤ 100000) :
    Calls Try.prog 28 #[.slice (some ⟨g, 0, none⟩) l.length c, v] w fun e w' => e = .returned (.bool true) ∧ Gr w w' := by
  have HV := Lib.hid hv
  obtain ⟨A, cl, rfl, hv2⟩ := hv
  have hcap := own_room hrow
  have hgz : g < w.heap.size := own_lt hrow g rfl
  have hcell : ∀ j (hj : j < (l ++ mksB).length), w.cell? ⟨g, j, none⟩ = some (.int .u8 ((l ++ mksB)[j].toNat : Int)) := by
    intro j hj
    have h := hrow.cells (g := g) rfl j (.int .u8 ((l ++ mksB)[j].toNat : Int)) (byC_at _ j hj)
    have e : (⟨g, 0, none⟩ : Addr).add j = ⟨g, j, none⟩ := by unfold Addr.add; split <;> simp_all
    rwa [e] at h
  have HCELL := Lib.hid hcell
  obtain ⟨n, hn⟩ : ∃ n, l.length = n := ⟨_, rfl⟩
  have HN := Lib.hid hn
  rw [hn] at hcap hl HV
  obtain ⟨q, hq⟩ : ∃ q, q = n + 12 := ⟨_, rfl⟩
  have HQ := Lib.hid hq
  have hnat : ((n : Int) + 12).toNat = q := by omega
  have hci : (n : Int) + 12 ≤ (c : Int) := by omega
  have hqc : q ≤ c := by omega
  have hq9 : q ≤ 100012 := by omega
  rw [hn]
  clear hn hq hcell hv2 hrow
  go_enter Try.func28, Try.ntmps28
  go_wp2_with fail
  clear hnat hci
  go_loopw [6] (fun i wr => ∃ k : Nat, k ≤ q ∧ i = .int .i64 k ∧ Gr w wr) (fun i _ => q - (Lib.intOf i).toNat)
  case atStart => exact ⟨0, Nat.zero_le _, rfl, Gr.refl _⟩
  case round =>
    obtain ⟨k, hk, rfl, hbe⟩ := hrel
    have HBE := Lib.hid hbe
    by_cases hlt : k < q
    · have hkl : k < (l ++ mksB).length := by rw [List.length_append, mksB_len, HN.out, ← HQ.out]; exact hlt
      have gk := (hbe.below.cell (p := ⟨g, k, none⟩) hgz).trans (HCELL.out k hkl)
      obtain ⟨t, ht⟩ : ∃ t, (l ++ mksB)[k] = t := ⟨_, rfl⟩
      rw [ht] at gk
      have hk0 : (0 : Int) ≤ (k : Int) := by omega
      have hkq : (k : Int) < (q : Int) := by omega
      by_cases hkn : k < n
      · have hk1 : k < l.length := by rw [HN.out]; exact hkn
        obtain ⟨ad, f1, _, hck⟩ := BR.at1 (HV.out.gr HBE.out) hk1
        subst f1
        have e : l[k] = t := by rw [← ht, List.getElem_append_left]
        rw [e] at hck
        have hd1 : decide (n ≤ k) = false := by simpa using hkn
        have hkni : (k : Int) < (n : Int) := by omega
        clear e ht hbe
        go_upto_region 7 with (fail)
        go_quiet (fail)
        have HBQ := Lib.hid (HBE.out.drewN nq)
        clear hck gk
        generalize wr.drewN nq = WT at *
        go_wp2_with fail
        go_roundw
        case rel => exact ⟨k + 1, by omega, by go_num, HBQ.out⟩
        case measure => simp [Lib.intOf]; omega
      · obtain ⟨j, hj⟩ : ∃ j : Nat, j = k - n := ⟨_, rfl⟩
        have hsub : (k : Int) - (n : Int) = (j : Int) := by omega
        have hj12 : j < 12 := by have := HQ.out; omega
        have hjm : j < mksB.length := by rw [mksB_len]; exact hj12
        have hT : mB j = t := by
          rw [← mksB_get j hjm, ← ht, List.getElem_append_right (by rw [HN.out]; omega)]
          congr 1
          rw [HN.out, hj]
        have HTT := Lib.hid hT
        have hd1 : decide (k < n) = false := by simpa using hkn
        have hd2 : decide (n ≤ k) = true := by simpa using hkn
        have hgr : g < wr.heap.size := by have := hbe.below.size; omega
        clear ht hT hj hkn hbe
        go_upto_region 7 with (fail)
        have kg := cell_grown hgr gk
        have cM : ∀ n os, Calls Try.prog 56 #[.int .i64 1, .int .i64 j] (Sort.grow (wr.drewN n) os) fun e w'' => e = .returned (.int .u8 (t.toNat : Int)) ∧ ∃ p : GrownBy, w'' = Sort.grow (wr.drewN p.n) p.os := fun n os => Calls.grown_of ((markByte_any j (Sort.grow (wr.drewN n) os) hj12).mono fun e w' h => ⟨h.1.trans (by rw [HTT.out]), gr_of_eq h.2⟩)
        refine wp_region_quiet_grown mixed (by kernel_rfl) ?_
        repeat (first | go_big_quiet_skip | (go_big_quiet_want; go_big_quiet_op; first | go_big_quiet_on | go_big_quiet_call (exact cM _ _)) | quiet_step (exact cM _ _))
        refine wpQuiet_nil ?_
        intro _ hw'
        obtain ⟨⟨nq, osq⟩, hw''⟩ := hw'
        subst hw''
        have HBQ := Lib.hid (HBE.out.trans (⟨nq, osq, rfl⟩ : Gr wr (Sort.grow (wr.drewN nq) osq)))
        clear cM kg gk
        generalize Sort.grow (wr.drewN nq) osq = WT at *
        go_wp2_with fail
        go_roundw
        case rel => exact ⟨k + 1, by omega, by go_num, HBQ.out⟩
        case measure => simp [Lib.intOf]; omega
    · obtain rfl : k = q := by omega
      clear hbe
      go_wp2_with fail
      go_ret
      exact ⟨rfl, HBE.out⟩
end Go.Proofs.Ytpoefcpgcojppaa
