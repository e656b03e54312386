/- Walks of what tells free names. -/
import Derived.Test.YtepelfigcoohiaaDoorG
namespace Go.Proofs.YtepelfigcoohiaaDoor
open Go.ChangeShapes Go.WideShapes Go.ChangeAt Go.RowKit Go.Maps
set_option linter.unusedVariables false

def firstB (s : ByteArray) : Int := if h : 0 < s.size then (s[0]'h).toNat else 0
def freB (s : ByteArray) : Bool := verB s && (letB (firstB s) && !wordB s)

theorem verB_pos {s : ByteArray} (h : verB s = true) : 1 ≤ s.size := by
  unfold verB at h
  rw [Bool.and_eq_true, decide_eq_true_eq] at h
  exact h.1.1

theorem free_any (s : ByteArray) (w : World) (hm : s.size ≤ maxLen) : Calls Tryd.prog 11 #[.string s] w fun e w' => e = .returned (.bool (freB s)) ∧ Below w.heap.size w w' := by
  cases hv : verB s with
  | false =>
    have HE := Lib.hid (show freB s = false by unfold freB; rw [hv]; rfl)
    go_enter Tryd.func11, Tryd.ntmps11
    go_wp2_with (go_at_call 12; refine (vertex_any s _ hm).mono ?_; rintro e w' ⟨rfl, hb⟩)
    go_ret
    exact ⟨ret_bool HE.out.symm, hb⟩
  | true =>
    have hp := verB_pos hv
    have hf : firstB s = (s[0]'hp).toNat := dif_pos hp
    have hu1 : ((s[0]'hp).toNat : Int) ≤ 255 := by have := (s[0]'hp).toNat_lt; omega
    have hw32 : wrap32 ((s[0]'hp).toNat : Int) = ((s[0]'hp).toNat : Int) := by unfold wrap32; omega
    cases hl : letB ((s[0]'hp).toNat : Int) with
    | false =>
      have HE := Lib.hid (show freB s = false by unfold freB; rw [hf, hl]; simp)
      clear hf
      go_enter Tryd.func11, Tryd.ntmps11
      go_wp2_with (first | (go_at_call 12; refine (vertex_any s _ hm).mono ?_; rintro e w' ⟨rfl, hb⟩) | (go_at_call 17; refine (isLetter_any _ _).mono ?_; rintro e w' ⟨rfl, rfl⟩))
      go_ret
      exact ⟨ret_bool HE.out.symm, hb⟩
    | true =>
      have HE := Lib.hid (show freB s = !wordB s by unfold freB; rw [hv, hf, hl]; simp)
      clear hf
      go_enter Tryd.func11, Tryd.ntmps11
      go_wp2_with (first | (go_at_call 12; refine (vertex_any s _ hm).mono ?_; rintro e w' ⟨rfl, hb⟩) | (go_at_call 17; refine (isLetter_any _ _).mono ?_; rintro e w' ⟨rfl, rfl⟩) | (go_at_call 18; refine (isWord_any _ _).mono ?_; rintro e w' ⟨rfl, rfl⟩))
      go_ret
      exact ⟨ret_bool HE.out.symm, hb⟩

end Go.Proofs.YtepelfigcoohiaaDoor
