/- Two boxes filled, in whatever order they were made. -/
import Derived.Test.YtpoefcpgcojppaaTC
import Derived.Test.YtpoefcpgcojppaaTB
import Derived.Test.YtpoefcpgcojppaaTE
namespace Go.Proofs.Ytpoefcpgcojppaa
open Go.ChangeShapes Go.WideShapes Go.ChangeAt Go.RowKit
set_option linter.unusedVariables false

theorem heap_at1 (w : World) (o o' : Obj) : ((w.alloc o).alloc o').heap[w.heap.size + 1]? = some o' := by
  have h := heap_alloc_new (w.alloc o) o'
  rwa [World.size_alloc] at h

theorem Keep.mono {p q : Nat → Prop} {w w' : World} (h : Keep p w w') (hq : ∀ k, q k → p k) : Keep q w w' := ⟨h.os, h.tape, h.output, h.size, fun k hk hp => h.block k hk (hq k hp)⟩
abbrev E5 (a0 a1 a2 a3 a4 : Value) : Obj := .cells #[a0, a1, a2, a3, a4] 24
/-- two blocks filled, the rest as it was -/
structure Two (wB W : World) (E7 E8 : Nat) (a0 a1 a2 a3 a4 b0 b1 b2 b3 b4 : Value) : Prop where
  h7 : W.heap[E7]? = some (.cells #[a0, a1, a2, a3, a4] 24 (0, 0))
  h8 : W.heap[E8]? = some (.cells #[b0, b1, b2, b3, b4] 24 (0, 0))
  kp : Keep (fun k => k ≠ E7 ∧ k ≠ E8) wB W
theorem set5_block {w : World} {E : Nat} {v0 v1 v2 v3 v4 : Value} (h : w.heap[E]? = some (.cells #[v0, v1, v2, v3, v4] 24 (0, 0))) (a0 a1 a2 a3 a4 : Value) : (((((w.setCell ⟨E, 0, none⟩ a0).setCell ⟨E, 1, none⟩ a1).setCell ⟨E, 2, none⟩ a2).setCell ⟨E, 3, none⟩ a3).setCell ⟨E, 4, none⟩ a4).heap[E]? = some (.cells #[a0, a1, a2, a3, a4] 24 (0, 0)) :=
  Go.Joins.block_setCell (Go.Joins.block_setCell (Go.Joins.block_setCell (Go.Joins.block_setCell (Go.Joins.block_setCell h _) _) _) _) _
theorem two_a (wB : World) (a0 a1 a2 a3 a4 b0 b1 b2 b3 b4 : Value) : Two wB ((wB.alloc (E5 a0 a1 a2 a3 a4)).alloc (E5 b0 b1 b2 b3 b4)) wB.heap.size (wB.heap.size + 1) a0 a1 a2 a3 a4 b0 b1 b2 b3 b4 :=
  ⟨(Below.heap_alloc _ _ _ (by simp)).trans (heap_alloc_new wB _), heap_at1 wB _ _, Keep.of_below (((Below.refl _ wB).alloc (Nat.le_refl _) _).alloc (by simp) _)⟩
theorem Two.swap {wB W : World} {E7 E8 : Nat} {a0 a1 a2 a3 a4 b0 b1 b2 b3 b4 : Value} (h : Two wB W E7 E8 a0 a1 a2 a3 a4 b0 b1 b2 b3 b4) : Two wB W E8 E7 b0 b1 b2 b3 b4 a0 a1 a2 a3 a4 :=
  ⟨h.h8, h.h7, ⟨h.kp.os, h.kp.tape, h.kp.output, h.kp.size, fun k hk hp => h.kp.block k hk ⟨hp.2, hp.1⟩⟩⟩
theorem two_c {wB : World} {E : Nat} {v0 v1 v2 v3 v4 : Value} (h : wB.heap[E]? = some (.cells #[v0, v1, v2, v3, v4] 24 (0, 0))) (a0 a1 a2 a3 a4 b0 b1 b2 b3 b4 : Value) : Two wB ((((((wB.setCell ⟨E, 0, none⟩ a0).setCell ⟨E, 1, none⟩ a1).setCell ⟨E, 2, none⟩ a2).setCell ⟨E, 3, none⟩ a3).setCell ⟨E, 4, none⟩ a4).alloc (E5 b0 b1 b2 b3 b4)) E wB.heap.size a0 a1 a2 a3 a4 b0 b1 b2 b3 b4 := by
  have hlt := (Array.getElem?_eq_some_iff.1 h).1
  have hz : (((((wB.setCell ⟨E, 0, none⟩ a0).setCell ⟨E, 1, none⟩ a1).setCell ⟨E, 2, none⟩ a2).setCell ⟨E, 3, none⟩ a3).setCell ⟨E, 4, none⟩ a4).heap.size = wB.heap.size := by simp
  refine ⟨(Below.heap_alloc _ _ _ (by rw [hz]; exact hlt)).trans (set5_block h _ _ _ _ _), ?_, ?_⟩
  · have := heap_alloc_new (((((wB.setCell ⟨E, 0, none⟩ a0).setCell ⟨E, 1, none⟩ a1).setCell ⟨E, 2, none⟩ a2).setCell ⟨E, 3, none⟩ a3).setCell ⟨E, 4, none⟩ a4) (E5 b0 b1 b2 b3 b4)
    rwa [hz] at this
  · refine (set5_keep wB E a0 a1 a2 a3 a4).trans (Keep.of_below (p := fun k => k ≠ E) ((Below.refl _ _).alloc (Nat.le_refl _) _)) (fun _ _ h => h) |>.mono ?_
    exact fun k hp => hp.1
theorem two_e {wB : World} {E F : Nat} {v0 v1 v2 v3 v4 u0 u1 u2 u3 u4 : Value} (h : wB.heap[E]? = some (.cells #[v0, v1, v2, v3, v4] 24 (0, 0))) (h' : wB.heap[F]? = some (.cells #[u0, u1, u2, u3, u4] 24 (0, 0))) (hEF : E ≠ F) (a0 a1 a2 a3 a4 b0 b1 b2 b3 b4 : Value) : Two wB ((((((((((wB.setCell ⟨E, 0, none⟩ a0).setCell ⟨E, 1, none⟩ a1).setCell ⟨E, 2, none⟩ a2).setCell ⟨E, 3, none⟩ a3).setCell ⟨E, 4, none⟩ a4).setCell ⟨F, 0, none⟩ b0).setCell ⟨F, 1, none⟩ b1).setCell ⟨F, 2, none⟩ b2).setCell ⟨F, 3, none⟩ b3).setCell ⟨F, 4, none⟩ b4) E F a0 a1 a2 a3 a4 b0 b1 b2 b3 b4 := by
  have k1 := set5_keep wB E a0 a1 a2 a3 a4
  have hlt := (Array.getElem?_eq_some_iff.1 h).1
  have hlt' := (Array.getElem?_eq_some_iff.1 h').1
  have k2 := set5_keep (((((wB.setCell ⟨E, 0, none⟩ a0).setCell ⟨E, 1, none⟩ a1).setCell ⟨E, 2, none⟩ a2).setCell ⟨E, 3, none⟩ a3).setCell ⟨E, 4, none⟩ a4) F b0 b1 b2 b3 b4
  refine ⟨(k2.block E (Nat.lt_of_lt_of_le hlt k1.size) hEF).trans (set5_block h _ _ _ _ _), set5_block ((k1.block F hlt' (Ne.symm hEF)).trans h') _ _ _ _ _, ?_⟩
  exact (k1.mono (q := fun k => k ≠ E ∧ k ≠ F) (fun k hp => hp.1)).trans k2 (fun _ _ hp => hp.2)

end Go.Proofs.Ytpoefcpgcojppaa
