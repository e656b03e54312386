/- Walks of an item that goes up, of the places below one. -/
import Derived.Test.YtfcdgfjpmcapkaaGreatHD
import Derived.Test.YtfcdgfjpmcapkaaGreatHE
namespace Go.Proofs.YtfcdgfjpmcapkaaGreat
open Go.ChangeShapes Go.WideShapes Go.ChangeAt Go.RowKit
set_option linter.unusedVariables false

theorem bel_yes {L : List It} {p : Nat} (h1 : 2 * p + 2 < L.length) (h2 : le (g L (2 * p + 1)) (g L (2 * p + 2)) = false) : bel L p = 2 * p + 2 := if_pos ⟨h1, h2⟩
theorem bel_no {L : List It} {p : Nat} (h : ¬ (2 * p + 2 < L.length ∧ le (g L (2 * p + 1)) (g L (2 * p + 2)) = false)) : bel L p = 2 * p + 1 := if_neg h

set_option maxRecDepth 100000 in
theorem below_any {w : World} {b : Nat} {sv : Value} {L : List It} (h : Hb w b sv L) (p : Nat) (hp : p ≤ 1000000) (hL : L.length ≤ 1000000) :
    Calls Tryz.prog 66 #[.pointer (some ⟨b, 0, none⟩), .int .i64 (p : Int)] w fun e w' => e = .returned (.int .i64 (bel L p : Int)) ∧ Below w.heap.size w w' := by
  obtain ⟨A, c, rfl, hf, hnc, _⟩ := row_form h.row
  obtain ⟨c0, c1, c2⟩ := h.cells
  have H := Lib.hid h
  clear h hf
  by_cases h1 : 2 * p + 2 < L.length
  · have hd : decide (2 * (p : Int) + 2 < (L.length : Int)) = true := by rw [decide_eq_true_iff]; omega
    have ha := ahead_any H.out (2 * p + 2) (2 * p + 1) h1 (by omega) hL
    by_cases h2 : le (g L (2 * p + 1)) (g L (2 * p + 2)) = true
    · rw [bel_no (by rw [h2]; simp)]
      rw [h2] at ha
      clear h2
      go_enter Tryz.func66, Tryz.ntmps66
      go_wp2_with fail
      refine ha.mono ?_
      rintro e w' ⟨rfl, hb⟩
      clear ha
      go_wp2_with fail
      go_ret
      exact ⟨ret_int (by omega), hb⟩
    · have h2' : le (g L (2 * p + 1)) (g L (2 * p + 2)) = false := by simpa using h2
      rw [bel_yes h1 h2']
      rw [h2'] at ha
      clear h2 h2'
      go_enter Tryz.func66, Tryz.ntmps66
      go_wp2_with fail
      refine ha.mono ?_
      rintro e w' ⟨rfl, hb⟩
      clear ha
      go_wp2_with fail
      go_ret
      exact ⟨ret_int (by omega), hb⟩
  · have hd : decide (2 * (p : Int) + 2 < (L.length : Int)) = false := by rw [decide_eq_false_iff_not]; omega
    rw [bel_no (fun hh => h1 hh.1)]
    clear h1
    go_enter Tryz.func66, Tryz.ntmps66
    go_wp2_with fail
    go_ret
    exact ⟨ret_int (by omega), by go_grown⟩

def RiseR (b : Nat) (sv : Value) (L : List It) (w : World) (e : Ending) (w' : World) : Prop := e = .returned (.tuple #[]) ∧ Keep (Off b sv) w w' ∧ ∃ M, Hb w' b sv M ∧ M.Perm L ∧ Heap M

set_option maxRecDepth 100000 in
theorem rise_any {w : World} {b : Nat} {sv : Value} {L : List It} (h : Hb w b sv L) (p : Nat) (hp : p < L.length) (hu : Up L p) (hL : L.length ≤ 1000000) :
    Calls Tryz.prog 49 #[.pointer (some ⟨b, 0, none⟩), .int .i64 (p : Int)] w (RiseR b sv L w) := by
  have H := Lib.hid h
  have HU := Lib.hid hu
  clear h hu
  go_enter Tryz.func49, Tryz.ntmps49
  go_wp2_with fail
  go_loopw [1] (fun i wr => ∃ q : Nat, i = .int .i64 q ∧ Keep (Off b sv) w wr ∧ ∃ M, Hb wr b sv M ∧ M.Perm L ∧ q < M.length ∧ Up M q) (fun i _ => (intOf i).toNat)
  case atStart => exact ⟨p, rfl, Keep.refl _ _, L, H.out, List.Perm.refl _, hp, HU.out⟩
  case round =>
    obtain ⟨q, rfl, hk, M, hM, hperm, hq, hup⟩ := hrel
    have HK := Lib.hid hk
    have HM := Lib.hid hM
    have HP := Lib.hid hperm
    have HUP := Lib.hid hup
    have hml : M.length = L.length := hperm.length_eq
    have hq2 : q < 1000000 := by omega
    clear hk hM hperm hup hml
    by_cases h0 : q = 0
    · subst h0
      have HQ := Lib.hid hq
      go_wp2_with fail
      go_end0
      exact ⟨rfl, HK.out, M, HM.out, HP.out, up_end HUP.out (.inl rfl)⟩
    · have h1 : 0 < q := by omega
      obtain ⟨u, hu⟩ : ∃ u, u = par q := ⟨_, rfl⟩
      have hu1 : u < q := by rw [hu]; unfold par; omega
      have hdiv : ((q : Int) - 1) / 2 = (u : Int) := by rw [hu]; unfold par; omega
      have HUE := Lib.hid hu
      have ha := ahead_any HM.out q u hq (by omega) (by have := HP.out.length_eq; omega)
      clear h0 hu
      by_cases h2 : le (g M u) (g M q) = true
      · rw [h2] at ha
        have H2 := Lib.hid h2
        clear h2
        go_wp2_with fail
        rw [hdiv]
        refine ha.mono ?_
        rintro e w' ⟨rfl, hb⟩
        clear ha
        go_wp2_with fail
        go_end0
        exact ⟨rfl, HK.out.trans (q := fun _ => True) (Keep.of_below hb) (fun _ _ _ => trivial), M, HM.out.below hb, HP.out, up_end HUP.out (.inr (by rw [← HUE.out]; exact H2.out))⟩
      · have h2' : le (g M u) (g M q) = false := by simpa using h2
        rw [h2'] at ha
        have H2 := Lib.hid h2'
        clear h2 h2'
        go_wp2_with fail
        rw [hdiv]
        refine ha.mono ?_
        rintro e w2 ⟨rfl, hb⟩
        have HB := Lib.hid hb
        have hM2 := HM.out.below hb
        clear ha hb
        go_wp2_with fail
        refine (swap_any hM2 q u hq (by omega) (by omega) (by have := HP.out.length_eq; omega)).mono ?_
        rintro e w3 ⟨rfl, hb3, hk3⟩
        have HB3 := Lib.hid hb3
        have HK3 := Lib.hid hk3
        clear hb3 hk3 hM2
        go_wp2_with fail
        go_roundw
        case rel => exact ⟨u, rfl, (HK.out.trans (q := fun _ => True) (Keep.of_below HB.out) (fun _ _ _ => trivial)).trans HK3.out (fun _ _ h => h), _, HB3.out, (sw_perm hq (by omega)).trans HP.out, by rw [sw_len]; omega, by have := up_step HUP.out h1 hq (by rw [← HUE.out]; exact H2.out); rw [← HUE.out] at this; exact this⟩
        case measure => simp [intOf]; omega
end Go.Proofs.YtfcdgfjpmcapkaaGreat
