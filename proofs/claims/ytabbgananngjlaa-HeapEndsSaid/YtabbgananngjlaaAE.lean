/- Walk of the reference's New. -/
import Derived.Test.YtabbgananngjlaaAB
import Derived.Test.YtabbgananngjlaaAD
namespace Go.Proofs.Ytabbgananngjlaa
open Go.ChangeShapes Go.WideShapes Go.ChangeAt Go.RowKit
set_option linter.unusedVariables false

def RNewR (w : World) (l : List It) (e : Ending) (w' : World) : Prop :=
  ∃ rb A c, e = .returned (.pointer (some ⟨rb, 0, none⟩)) ∧ RB w' rb A c (srt l) ∧ Below w.heap.size w w' ∧ w.heap.size ≤ rb ∧ ∀ ad, A = some ad → w.heap.size ≤ ad.block

theorem rNew_any {w : World} {v : Value} {l : List It} (h : PR w v l) (hl : l.length ≤ 1000000) : Calls Try.prog 10 #[v] w (RNewR w l) := by
  have hal : Below w.heap.size w (w.alloc (.cells #[.slice none 0 0] 53)) := (Below.refl _ w).alloc (Nat.le_refl _) _
  have hrb : RB (w.alloc (.cells #[.slice none 0 0] 53)) w.heap.size none 0 [] := ⟨heap_alloc_new w _, ⟨none, 0, rfl, fun h => absurd h (by simp)⟩, Nat.le_refl _, by unfold maxLen; omega, fun _ => rfl, fun ad e => by cases e⟩
  have hpush := rPush_any hrb (by unfold Srt; exact List.Pairwise.nil) (h.below hal) (fun h0 g hg => by have := h.ltb h0 g hg; omega) (by simp; omega)
  have HAL := Lib.hid hal
  clear hal hrb
  go_enter Try.func10, Try.ntmps10
  go_wp2_with fail
  refine hpush.mono ?_
  rintro e w1 ⟨rfl, A, c, hrb, hk, hab⟩
  have HRB := Lib.hid hrb
  have HK := Lib.hid hk
  have HAB := Lib.hid hab
  clear hpush hrb hk hab
  go_wp2_with fail
  go_ret
  refine ⟨w.heap.size, A, c, rfl, HRB.out, HAL.out.trans (HK.out.below HAL.out.size fun k hk e => by omega), Nat.le_refl _, fun ad e => ?_⟩
  rcases HAB.out ad e with ⟨_, e1, _⟩ | h1
  · cases e1
  · simp at h1; omega
end Go.Proofs.Ytabbgananngjlaa
