/- Walk of what holds two rows of values against each other. -/
import Derived.Test.YtadjgjbkjhallaaDoorW
namespace Go.Proofs.YtadjgjbkjhallaaDoor
open Go.ChangeShapes Go.WideShapes Go.ChangeAt Go.RowKit
set_option linter.unusedVariables false

def RowsR (x y : List Vt) (w : World) (e : Ending) (w' : World) : Prop := e = .returned (.int .i64 (cmpR x y)) ∧ Gr w w'
theorem mixed : Tryd.prog.follows .mixedOrders = true := by kernel_rfl
theorem Gr.of_grow {a b : World} (h : Gr a b) (n : Nat) (os : Array Obj) : Gr a (Sort.grow (b.drewN n) os) := h.trans ⟨n, os, rfl⟩

set_option maxHeartbeats 4000000 in
set_option maxRecDepth 100000 in
theorem rows_gr {w : World} {v1 v2 : Value} {x y : List Vt} (h1 : VR w v1 x) (h2 : VR w v2 y) (hm : x.length ≤ 281474976710656) (hn : y.length ≤ 281474976710656) :
    Calls Tryd.prog 21 #[v1, v2] w (RowsR x y w) := by
  unfold RowsR
  have hmx := mixed
  have H1 := Lib.hid h1
  have H2 := Lib.hid h2
  obtain ⟨A, c, rfl, _⟩ := h1
  obtain ⟨B, d, rfl, _⟩ := h2
  obtain ⟨m, hM⟩ : ∃ m, x.length = m := ⟨_, rfl⟩
  obtain ⟨n, hN⟩ : ∃ n, y.length = n := ⟨_, rfl⟩
  have HMN := Lib.hid (And.intro hM hN)
  rw [hM] at H1 hm ⊢
  rw [hN] at H2 hn ⊢
  clear hM hN
  obtain ⟨p, hp⟩ : ∃ p : Nat, p = min m n := ⟨_, rfl⟩
  have hpz : min (m : Int) (n : Int) = (p : Int) := by omega
  have HP := Lib.hid hp
  have HPZ := Lib.hid hpz
  have hp48 : p ≤ 281474976710656 := by omega
  clear hp hpz
  go_enter Tryd.func21, Tryd.ntmps21
  go_upto_region 2 with (fail)
  rw [HPZ.out]
  go_loopw [12] (fun i wr => ∃ k : Nat, k ≤ p ∧ i = .int .i64 k ∧ x.take k = y.take k ∧ Gr w wr) (fun i _ => p - (Lib.intOf i).toNat)
  case atStart => exact ⟨0, Nat.zero_le _, rfl, by simp, Gr.refl _⟩
  case round =>
    obtain ⟨k, hk, rfl, ht, hg⟩ := hrel
    have HT := Lib.hid ht
    have HG := Lib.hid hg
    clear ht hg
    by_cases hlt : k < p
    · have e1 : k < x.length := by have := HMN.out.1; have := HP.out; omega
      have e2 : k < y.length := by have := HMN.out.2; have := HP.out; omega
      have hkm : k < m := by have := HP.out; omega
      have hkn : k < n := by have := HP.out; omega
      obtain ⟨ad, f1, hb1, q0, q1, q2⟩ := VR.at3 (H1.out.below HG.out.below) e1
      subst f1
      obtain ⟨ad2, f2, hb2, r0, r1, r2⟩ := VR.at3 (H2.out.below HG.out.below) e2
      subst f2
      obtain ⟨u, hu⟩ : ∃ u, x[k] = u := ⟨_, rfl⟩
      obtain ⟨v, hv⟩ : ∃ v, y[k] = v := ⟨_, rfl⟩
      rw [hu] at q0 q1 q2
      rw [hv] at r0 r1 r2
      have HX := Lib.hid hu
      have HY := Lib.hid hv
      clear hu hv
      have hC := fun W => compare_gr u v W
      obtain ⟨cv, hcv⟩ : ∃ cv, cmpV u v = cv := ⟨_, rfl⟩
      rw [hcv] at hC
      have HCV := Lib.hid hcv
      obtain ⟨u1, u2, u3⟩ := u
      obtain ⟨v1, v2, v3⟩ := v
      simp only at hC
      have kq0 := cell_grown (a := ad.add (k * 3)) (by rw [block_add]; exact hb1) q0
      have kq1 := cell_grown (a := ⟨(ad.add (k * 3)).block, (ad.add (k * 3)).off + 1, none⟩) (by show (ad.add (k * 3)).block < _; rw [block_add]; exact hb1) q1
      have kq2 := cell_grown (a := ⟨(ad.add (k * 3)).block, (ad.add (k * 3)).off + 2, none⟩) (by show (ad.add (k * 3)).block < _; rw [block_add]; exact hb1) q2
      have kr0 := cell_grown (a := ad2.add (k * 3)) (by rw [block_add]; exact hb2) r0
      have kr1 := cell_grown (a := ⟨(ad2.add (k * 3)).block, (ad2.add (k * 3)).off + 1, none⟩) (by show (ad2.add (k * 3)).block < _; rw [block_add]; exact hb2) r1
      have kr2 := cell_grown (a := ⟨(ad2.add (k * 3)).block, (ad2.add (k * 3)).off + 2, none⟩) (by show (ad2.add (k * 3)).block < _; rw [block_add]; exact hb2) r2
      have HC := Lib.hid hC
      clear q0 q1 q2 r0 r1 r2 hC hcv
      go_upto_region 4 with (fail)
      go_quiet_grown (first | (go_at_call 8; refine Calls.grown_of (HC.out _)))
      have HGQ := Lib.hid (HG.out.of_grow nq osq)
      clear kq0 kq1 kq2 kr0 kr1 kr2
      generalize Sort.grow (wr.drewN nq) osq = WT at *
      by_cases hz : cv = 0
      · have hz' : (cv != 0) = false := by simp [hz]
        have HZ := Lib.hid hz
        clear hz
        go_wp2_with fail
        go_roundw
        case rel => exact ⟨k + 1, by omega, by go_num, take_stepV HT.out e1 e2 (HX.out.trans (((three_val.zero _ _).1 (HCV.out.trans HZ.out)).trans HY.out.symm)), HGQ.out⟩
        case measure => simp [Lib.intOf]; omega
      · have hz' : (cv != 0) = true := by simpa using hz
        have HZ := Lib.hid hz
        clear hz
        go_wp2_with fail
        go_ret
        refine ⟨ret_int ?_, HGQ.out⟩
        symm
        have hcr : cmpV x[k] y[k] = cv := by rw [HX.out, HY.out]; exact HCV.out
        rw [cr_here HT.out e1 e2 (by rw [hcr]; exact HZ.out)]
        exact hcr
    · have : k = p := by omega
      subst this
      have HE := Lib.hid (show cmpR x y = Lib.compareInt m n by rw [cr_end HT.out (by rw [HMN.out.1, HMN.out.2]; exact HP.out), HMN.out.1, HMN.out.2])
      go_wp2_with (go_at_call 30; refine (cmpI_any _ _ _).mono ?_; rintro e w' ⟨rfl, rfl⟩)
      go_ret
      exact ⟨ret_int HE.out.symm, HG.out⟩
end Go.Proofs.YtadjgjbkjhallaaDoor
