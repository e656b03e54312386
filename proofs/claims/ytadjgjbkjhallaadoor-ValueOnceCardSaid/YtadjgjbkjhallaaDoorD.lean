/- Walks of two values held against each other. -/
import Derived.Test.YtadjgjbkjhallaaDoorC
import Derived.Test.YtadjgjbkjhallaaDoorShelf
namespace Go.Proofs.YtadjgjbkjhallaaDoor
open Go.ChangeShapes Go.WideShapes Go.ChangeAt Go.RowKit
set_option linter.unusedVariables false

theorem cmpT_any (a b : ByteArray) (w : World) : Calls Tryd.prog 31 #[.string a, .string b] w fun e w' => e = .returned (.int .i64 (cmpB a b)) ∧ w = w' :=
  (Tryd.strings_Compare a b w).mono fun e w' ⟨he, hw⟩ => ⟨he, hw.symm⟩

set_option maxHeartbeats 4000000 in
theorem compare_gr (x y : Vt) (w : World) : Calls Tryd.prog 8 #[.agg #[.int .i64 x.1, .int .i64 x.2.1, .string x.2.2], .agg #[.int .i64 y.1, .int .i64 y.2.1, .string y.2.2]] w fun e w' => e = .returned (.int .i64 (cmpV x y)) ∧ Gr w w' := by
  rw [cmpV_or]
  obtain ⟨x1, x2, x3⟩ := x
  obtain ⟨y1, y2, y3⟩ := y
  go_enter Tryd.func8, Tryd.ntmps8
  go_wp2_with fail
  have a1 : ((w.alloc (.cells #[.int .i64 x1, .int .i64 x2, .string x3] 25)).alloc (.cells #[.int .i64 y1, .int .i64 y2, .string y3] 25)).heap[w.heap.size]? = some (.cells #[.int .i64 x1, .int .i64 x2, .string x3] 25 (0, 0)) := (Below.heap_alloc _ _ _ (by simp)).trans (heap_alloc_new w _)
  have a2 : ((w.alloc (.cells #[.int .i64 x1, .int .i64 x2, .string x3] 25)).alloc (.cells #[.int .i64 y1, .int .i64 y2, .string y3] 25)).heap[w.heap.size + 1]? = some (.cells #[.int .i64 y1, .int .i64 y2, .string y3] 25 (0, 0)) := by have h := heap_alloc_new (w.alloc (.cells #[.int .i64 x1, .int .i64 x2, .string x3] 25)) (.cells #[.int .i64 y1, .int .i64 y2, .string y3] 25); rw [World.size_alloc] at h; exact h
  have q1 := cell_of_row _ _ 0 _ 25 (0, 0) a1
  have q2 := cell_of_row _ _ 1 _ 25 (0, 0) a1
  have q3 := cell_of_row _ _ 2 _ 25 (0, 0) a1
  have r1 := cell_of_row _ _ 0 _ 25 (0, 0) a2
  have r2 := cell_of_row _ _ 1 _ 25 (0, 0) a2
  have r3 := cell_of_row _ _ 2 _ 25 (0, 0) a2
  have hgw : Gr w ((w.alloc (.cells #[.int .i64 x1, .int .i64 x2, .string x3] 25)).alloc (.cells #[.int .i64 y1, .int .i64 y2, .string y3] 25)) := ((Gr.refl w).alloc _).alloc _
  clear a1 a2
  have HGW := Lib.hid hgw
  clear hgw
  generalize (w.alloc (.cells #[.int .i64 x1, .int .i64 x2, .string x3] 25)).alloc (.cells #[.int .i64 y1, .int .i64 y2, .string y3] 25) = w0 at *
  generalize w.heap.size + 1 = B at *
  generalize hA : w.heap.size = A at q1 q2 q3 ⊢
  clear hA
  go_region_held3 (fun w' => w'.cell? ⟨A, 0, none⟩ = some (.int .i64 x1) ∧ w'.cell? ⟨A, 1, none⟩ = some (.int .i64 x2) ∧ w'.cell? ⟨A, 2, none⟩ = some (.string x3) ∧ w'.cell? ⟨B, 0, none⟩ = some (.int .i64 y1) ∧ w'.cell? ⟨B, 1, none⟩ = some (.int .i64 y2) ∧ w'.cell? ⟨B, 2, none⟩ = some (.string y3)) (first | exact ⟨q1, q2, q3, r1, r2, r3⟩ | (go_keep; done)) (first | (go_at_call 29; refine (cmpK_any _ _ _).mono ?_; rintro e w' ⟨rfl, rfl⟩) | (go_at_call 30; refine (cmpI_any _ _ _).mono ?_; rintro e w' ⟨rfl, rfl⟩) | (go_at_call 31; refine (cmpT_any _ _ _).mono ?_; rintro e w' ⟨rfl, rfl⟩) | (go_at_call 28; refine (or_new _ _ _ _ _ rfl).mono ?_; rintro e w' ⟨rfl, rfl⟩))
  go_wp2_with fail
  go_ret
  exact ⟨rfl, (HGW.out.alloc _).drew⟩
end Go.Proofs.YtadjgjbkjhallaaDoor
