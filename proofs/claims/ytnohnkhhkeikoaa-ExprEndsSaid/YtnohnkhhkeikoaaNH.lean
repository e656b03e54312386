/- Walks of what tells free names. -/
import Derived.Test.YtnohnkhhkeikoaaNG
namespace Go.Proofs.Ytnohnkhhkeikoaa
open Go.ChangeShapes Go.WideShapes Go.ChangeAt Go.RowKit
set_option linter.unusedVariables false

def firstB (s : ByteArray) : Int := if h : 0 < s.size then (s[0]'h).toNat else 0
def freB (s : ByteArray) : Bool := verB s && (letB (firstB s) && !wordB s)

theorem verB_pos {s : ByteArray} (h : verB s = true) : 1 ≤ s.size := by
  unfold verB at h
  rw [Bool.and_eq_true, decide_eq_true_eq] at h
  exact h.1.1

theorem free_any (s : ByteArray) (w : World) (hm : s.size ≤ maxLen) : Calls Try.prog 51 #[.string s] w fun e w' => e = .returned (.bool (freB s)) ∧ Below w.heap.size w w' := by
  cases hv : verB s with
  | false =>
    have HE := Lib.hid (show freB s = false by unfold freB; rw [hv]; rfl)
    go_enter Try.func51, Try.ntmps51
    go_wp2_with (go_at_call 76; refine (vertex_any s _ hm).mono ?_; rintro e w' ⟨rfl, hb⟩)
    go_ret
    exact ⟨ret_bool HE.out.symm, hb⟩
  | true =>
    have hp := verB_pos hv
    have hf : firstB s = (s[0]'hp).toNat := dif_pos hp
    have hu1 : ((s[0]'hp).toNat : Int) ≤ 255 := by have := (s[0]'hp).toNat_lt; omega
    have hw32 : wrap32 ((s[0]'hp).toNat : Int) = ((s[0]'hp).toNat : Int) := by unfold wrap32; omega
    cases hl : letB ((s[0]'hp).toNat : Int) with
    | false =>
      have HE := Lib.hid (show freB s = false by unfold freB; rw [hf, hl]; simp)
      clear hf
      go_enter Try.func51, Try.ntmps51
      go_wp2_with (first | (go_at_call 76; refine (vertex_any s _ hm).mono ?_; rintro e w' ⟨rfl, hb⟩) | (go_at_call 77; refine (isLetter_any _ _).mono ?_; rintro e w' ⟨rfl, rfl⟩))
      go_ret
      exact ⟨ret_bool HE.out.symm, hb⟩
    | true =>
      have HE := Lib.hid (show freB s = !wordB s by unfold freB; rw [hv, hf, hl]; simp)
      clear hf
      go_enter Try.func51, Try.ntmps51
      go_wp2_with (first | (go_at_call 76; refine (vertex_any s _ hm).mono ?_; rintro e w' ⟨rfl, hb⟩) | (go_at_call 77; refine (isLetter_any _ _).mono ?_; rintro e w' ⟨rfl, rfl⟩) | (go_at_call 78; refine (isWord_any _ _).mono ?_; rintro e w' ⟨rfl, rfl⟩))
      go_ret
      exact ⟨ret_bool HE.out.symm, hb⟩

theorem rFree_any (s : ByteArray) (w : World) (hm : s.size ≤ maxLen) : Calls Try.prog 52 #[.string s] w fun e w' => e = .returned (.bool (freB s)) ∧ w = w' := by
  cases hv : verB s with
  | false =>
    have HE := Lib.hid (show freB s = false by unfold freB; rw [hv]; rfl)
    go_enter Try.func52, Try.ntmps52
    go_wp2_with (go_at_call 79; refine (rVertex_any s _ hm).mono ?_; rintro e w' ⟨rfl, rfl⟩)
    go_ret
    exact ⟨ret_bool HE.out.symm, rfl⟩
  | true =>
    have hp := verB_pos hv
    have hf : firstB s = (s[0]'hp).toNat := dif_pos hp
    cases hl : letB ((s[0]'hp).toNat : Int) with
    | false =>
      have HE := Lib.hid (show freB s = false by unfold freB; rw [hf, hl]; simp)
      clear hf
      go_enter Try.func52, Try.ntmps52
      go_wp2_with (first | (go_at_call 79; refine (rVertex_any s _ hm).mono ?_; rintro e w' ⟨rfl, rfl⟩) | (go_at_call 80; refine (letter_any _ _).mono ?_; rintro e w' ⟨rfl, rfl⟩))
      go_ret
      exact ⟨ret_bool HE.out.symm, rfl⟩
    | true =>
      have HE := Lib.hid (show freB s = !wordB s by unfold freB; rw [hv, hf, hl]; simp)
      clear hf
      cases w1 : (s.toList == [97, 115]) with
      | true =>
        go_enter Try.func52, Try.ntmps52
        go_wp2_with (first | (go_at_call 79; refine (rVertex_any s _ hm).mono ?_; rintro e w' ⟨rfl, rfl⟩) | (go_at_call 80; refine (letter_any _ _).mono ?_; rintro e w' ⟨rfl, rfl⟩))
        go_ret
        exact ⟨ret_bool (by rw [HE.out]; simp [wordB, w1]), rfl⟩
      | false =>
        cases w2 : (s.toList == [109, 97, 116, 99, 104]) with
        | true =>
          go_enter Try.func52, Try.ntmps52
          go_wp2_with (first | (go_at_call 79; refine (rVertex_any s _ hm).mono ?_; rintro e w' ⟨rfl, rfl⟩) | (go_at_call 80; refine (letter_any _ _).mono ?_; rintro e w' ⟨rfl, rfl⟩))
          go_ret
          exact ⟨ret_bool (by rw [HE.out]; simp [wordB, w1, w2]), rfl⟩
        | false =>
          cases w3 : (s.toList == [119, 104, 101, 114, 101]) with
          | true =>
            go_enter Try.func52, Try.ntmps52
            go_wp2_with (first | (go_at_call 79; refine (rVertex_any s _ hm).mono ?_; rintro e w' ⟨rfl, rfl⟩) | (go_at_call 80; refine (letter_any _ _).mono ?_; rintro e w' ⟨rfl, rfl⟩))
            go_ret
            exact ⟨ret_bool (by rw [HE.out]; simp [wordB, w1, w2, w3]), rfl⟩
          | false =>
            cases w4 : (s.toList == [97, 110, 100]) with
            | true =>
              go_enter Try.func52, Try.ntmps52
              go_wp2_with (first | (go_at_call 79; refine (rVertex_any s _ hm).mono ?_; rintro e w' ⟨rfl, rfl⟩) | (go_at_call 80; refine (letter_any _ _).mono ?_; rintro e w' ⟨rfl, rfl⟩))
              go_ret
              exact ⟨ret_bool (by rw [HE.out]; simp [wordB, w1, w2, w3, w4]), rfl⟩
            | false =>
              cases w5 : (s.toList == [114, 101, 116, 117, 114, 110]) with
              | true =>
                go_enter Try.func52, Try.ntmps52
                go_wp2_with (first | (go_at_call 79; refine (rVertex_any s _ hm).mono ?_; rintro e w' ⟨rfl, rfl⟩) | (go_at_call 80; refine (letter_any _ _).mono ?_; rintro e w' ⟨rfl, rfl⟩))
                go_ret
                exact ⟨ret_bool (by rw [HE.out]; simp [wordB, w1, w2, w3, w4, w5]), rfl⟩
              | false =>
                cases w6 : (s.toList == [114, 97, 110, 103, 101]) with
                | true =>
                  go_enter Try.func52, Try.ntmps52
                  go_wp2_with (first | (go_at_call 79; refine (rVertex_any s _ hm).mono ?_; rintro e w' ⟨rfl, rfl⟩) | (go_at_call 80; refine (letter_any _ _).mono ?_; rintro e w' ⟨rfl, rfl⟩))
                  go_ret
                  exact ⟨ret_bool (by rw [HE.out]; simp [wordB, w1, w2, w3, w4, w5, w6]), rfl⟩
                | false =>
                  cases w7 : (s.toList == [115, 108, 105, 100, 101]) with
                  | true =>
                    go_enter Try.func52, Try.ntmps52
                    go_wp2_with (first | (go_at_call 79; refine (rVertex_any s _ hm).mono ?_; rintro e w' ⟨rfl, rfl⟩) | (go_at_call 80; refine (letter_any _ _).mono ?_; rintro e w' ⟨rfl, rfl⟩))
                    go_ret
                    exact ⟨ret_bool (by rw [HE.out]; simp [wordB, w1, w2, w3, w4, w5, w6, w7]), rfl⟩
                  | false =>
                    go_enter Try.func52, Try.ntmps52
                    go_wp2_with (first | (go_at_call 79; refine (rVertex_any s _ hm).mono ?_; rintro e w' ⟨rfl, rfl⟩) | (go_at_call 80; refine (letter_any _ _).mono ?_; rintro e w' ⟨rfl, rfl⟩))
                    go_ret
                    exact ⟨ret_bool (by rw [HE.out]; simp [wordB, w1, w2, w3, w4, w5, w6, w7]), rfl⟩
end Go.Proofs.Ytnohnkhhkeikoaa
