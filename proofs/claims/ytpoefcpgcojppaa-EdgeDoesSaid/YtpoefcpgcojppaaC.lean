/- Walks of the small comparisons of edges. -/
import Derived.Test.YtpoefcpgcojppaaA
import Derived.Test.YtpoefcpgcojppaaRows
import Derived.Lib.Small
import Derived.Lib.Hide
import Derived.ProofKit
import Derived.RegionTactic
import Derived.LoopTactic
import Derived.StillTailTactics
import Derived.Deep.RegionHeld3
import Derived.Deep.RegionWith
import Derived.Sort.Grow
import Derived.Deep.Draws
import Derived.Handy
namespace Go.Proofs.Ytpoefcpgcojppaa
open Go.ChangeShapes Go.WideShapes Go.ChangeAt Go.RowKit
set_option linter.unusedVariables false

/-- blocks more, answers drawn -/
def Gr (w w' : World) : Prop := ∃ q os, w' = Sort.grow (w.drewN q) os
theorem Gr.refl (w : World) : Gr w w := ⟨0, #[], by rw [Sort.grow_empty]; rfl⟩
theorem Gr.trans {a b c : World} (h : Gr a b) (k : Gr b c) : Gr a c := by
  obtain ⟨q, os, rfl⟩ := h
  obtain ⟨q', os', rfl⟩ := k
  exact ⟨q + q', os ++ os', by simp [Sort.grow, World.drewN, Nat.add_assoc]⟩
theorem Gr.below {w w' : World} (h : Gr w w') : Below w.heap.size w w' := by
  obtain ⟨q, os, rfl⟩ := h
  exact ⟨rfl, rfl, rfl, by simp [Sort.grow, World.drewN], fun k hk => by simp only [Sort.grow, World.drewN]; exact Array.getElem?_append_left hk⟩
theorem Gr.alloc {a b : World} (h : Gr a b) (o : Obj) : Gr a (b.alloc o) := h.trans ⟨0, #[o], by rw [Sort.alloc_eq_grow]; rfl⟩
theorem Gr.drew {a b : World} (h : Gr a b) : Gr a b.drew := h.trans ⟨1, #[], by rw [Sort.grow_empty]; rfl⟩
theorem Gr.drewN {a b : World} (h : Gr a b) (n : Nat) : Gr a (b.drewN n) := h.trans ⟨n, #[], by rw [Sort.grow_empty]⟩

theorem isNaN_i (a : Int) (w : World) : Calls Try.prog 77 #[.int .i64 a] w fun e w' => e = .returned (.bool false) ∧ w = w' := by
  go_enter Try.func77, Try.ntmps77
  go_wp2
  go_ret
  exact ⟨rfl, rfl⟩

theorem cmpI_any (a b : Int) (w : World) : Calls Try.prog 52 #[.int .i64 a, .int .i64 b] w fun e w' => e = .returned (.int .i64 (Lib.compareInt a b)) ∧ w = w' := by
  by_cases h1 : a < b
  · have e : Lib.compareInt a b = -1 := by simp [Lib.compareInt, h1]
    rw [e]
    go_enter Try.func52, Try.ntmps52
    go_wp2_with (go_at_call 77; refine (isNaN_i _ _).mono ?_; rintro e w' ⟨rfl, rfl⟩)
    go_ret
    exact ⟨rfl, rfl⟩
  · by_cases h2 : b < a
    · have e : Lib.compareInt a b = 1 := by simp [Lib.compareInt, h1, h2]
      rw [e]
      go_enter Try.func52, Try.ntmps52
      go_wp2_with (go_at_call 77; refine (isNaN_i _ _).mono ?_; rintro e w' ⟨rfl, rfl⟩)
      go_ret
      exact ⟨rfl, rfl⟩
    · have e : Lib.compareInt a b = 0 := by simp [Lib.compareInt, h1, h2]
      rw [e]
      go_enter Try.func52, Try.ntmps52
      go_wp2_with (go_at_call 77; refine (isNaN_i _ _).mono ?_; rintro e w' ⟨rfl, rfl⟩)
      go_ret
      exact ⟨rfl, rfl⟩


theorem or_any (a b c d : Int) (gg : Nat) (w : World) (c0 : w.cell? ⟨gg, 0, none⟩ = some (.int .i64 a)) (c1 : w.cell? ⟨gg, 1, none⟩ = some (.int .i64 b)) (c2 : w.cell? ⟨gg, 2, none⟩ = some (.int .i64 c)) (c3 : w.cell? ⟨gg, 3, none⟩ = some (.int .i64 d)) :
    Calls Try.prog 51 #[.slice (some ⟨gg, 0, none⟩) 4 4] w fun e w' => e = .returned (.int .i64 (or4 a b c d)) ∧ w = w' := by
  unfold or4
  by_cases h0 : a = 0
  · subst h0
    rw [if_pos rfl]
    by_cases h1 : b = 0
    · subst h1
      rw [if_pos rfl]
      by_cases h2 : c = 0
      · subst h2
        rw [if_pos rfl]
        by_cases h3 : d = 0
        · subst h3
          go_enter Try.func51, Try.ntmps51
          go_wp2_with fail
          go_rounds 5
          go_ret
          exact ⟨rfl, rfl⟩
        · have hb : (d != 0) = true := by simpa using h3
          clear h3
          go_enter Try.func51, Try.ntmps51
          go_wp2_with fail
          go_rounds 5
          go_ret
          exact ⟨rfl, rfl⟩
      · rw [if_neg h2]
        have hb : (c != 0) = true := by simpa using h2
        clear h2
        go_enter Try.func51, Try.ntmps51
        go_wp2_with fail
        go_rounds 5
        go_ret
        exact ⟨rfl, rfl⟩
    · rw [if_neg h1]
      have hb : (b != 0) = true := by simpa using h1
      clear h1
      go_enter Try.func51, Try.ntmps51
      go_wp2_with fail
      go_rounds 5
      go_ret
      exact ⟨rfl, rfl⟩
  · rw [if_neg h0]
    have hb : (a != 0) = true := by simpa using h0
    clear h0
    go_enter Try.func51, Try.ntmps51
    go_wp2_with fail
    go_rounds 5
    go_ret
    exact ⟨rfl, rfl⟩
theorem or_new (a b c d : Int) (W : World) (k : Nat) (hk : k = W.heap.size) :
    Calls Try.prog 51 #[.slice (some ⟨k, 0, none⟩) 4 4] (W.alloc (.cells #[.int .i64 a, .int .i64 b, .int .i64 c, .int .i64 d] 3)).drew fun e w' => e = .returned (.int .i64 (or4 a b c d)) ∧ (W.alloc (.cells #[.int .i64 a, .int .i64 b, .int .i64 c, .int .i64 d] 3)).drew = w' := by
  subst hk
  have hg := heap_alloc_new W (.cells #[.int .i64 a, .int .i64 b, .int .i64 c, .int .i64 d] 3)
  refine or_any a b c d _ _ ?_ ?_ ?_ ?_
  · rw [World.cell?_drew, cell_of_row _ _ 0 _ 3 (0, 0) hg]; rfl
  · rw [World.cell?_drew, cell_of_row _ _ 1 _ 3 (0, 0) hg]; rfl
  · rw [World.cell?_drew, cell_of_row _ _ 2 _ 3 (0, 0) hg]; rfl
  · rw [World.cell?_drew, cell_of_row _ _ 3 _ 3 (0, 0) hg]; rfl
end Go.Proofs.Ytpoefcpgcojppaa
