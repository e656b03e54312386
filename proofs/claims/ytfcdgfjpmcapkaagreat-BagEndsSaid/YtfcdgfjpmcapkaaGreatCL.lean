/- Texts compared. -/
import Derived.Test.YtfcdgfjpmcapkaaGreatBV
namespace Go.Proofs.YtfcdgfjpmcapkaaGreat
open Go.ChangeShapes Go.WideShapes Go.ChangeAt Go.RowKit Go.Maps Go.Shelf
set_option linter.unusedVariables false

theorem lE (a b : ByteArray) : (a.toList == b.toList) = decide (a = b) := by
  by_cases h : a = b
  · subst h; simp
  · rw [decide_eq_false h, beq_eq_false_iff_ne]
    intro e
    rw [ByteArray.toList_eq, ByteArray.toList_eq] at e
    exact h (data_inj e)
theorem eqS (W : World) (a b : ByteArray) : (binOp .eql 9 (.string a) (.string b)).run Tryz.prog W = .ok (.bool (decide (a = b))) W := by
  simp [binOp, go_sem, Op.stringOp, lE]
theorem neS (W : World) (a b : ByteArray) : (binOp .neq 9 (.string a) (.string b)).run Tryz.prog W = .ok (.bool (!decide (a = b))) W := by
  simp [binOp, go_sem, Op.stringOp, lE]
theorem gtS (W : World) (a b : ByteArray) : (binOp .gtr 9 (.string a) (.string b)).run Tryz.prog W = .ok (.bool (bl b a)) W := by
  have h1 : (binOp .gtr 9 (.string a) (.string b)).run Tryz.prog W = .ok (.bool (!Op.bytesLess a.toList b.toList && !(a.toList == b.toList))) W := by simp [binOp, go_sem, Op.stringOp]
  rw [h1, bytesLess_eq, lE, ByteArray.toList_eq, ByteArray.toList_eq]
  congr 2
  rcases bl_tri a b with h | h | h
  · rw [bl_asymm h]
    unfold bl at h
    rw [h]
    rfl
  · subst h
    rw [bl_irrefl]
    simp
  · rw [h]
    have h2 := bl_asymm h
    unfold bl at h2
    rw [h2]
    have h3 : a ≠ b := fun e => by subst e; rw [bl_irrefl] at h; cases h
    simp [h3]
end Go.Proofs.YtfcdgfjpmcapkaaGreat
