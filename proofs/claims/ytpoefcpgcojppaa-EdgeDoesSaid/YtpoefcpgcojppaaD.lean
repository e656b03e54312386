/- Walks of two edges held against each other. -/
import Derived.Test.YtpoefcpgcojppaaC
import Derived.Test.YtpoefcpgcojppaaShelf
import Derived.LaidEql
namespace Go.Proofs.Ytpoefcpgcojppaa
open Go.ChangeShapes Go.WideShapes Go.ChangeAt Go.RowKit
set_option linter.unusedVariables false

theorem cmpT_any (a b : ByteArray) (w : World) : Calls Try.prog 53 #[.string a, .string b] w fun e w' => e = .returned (.int .i64 (cmpB a b)) ∧ w = w' :=
  (Try.strings_Compare a b w).mono fun e w' ⟨he, hw⟩ => ⟨he, hw.symm⟩

/-- an edge's five cells -/
def eV (k : Kt) (v : Value) : Value := .agg #[.string k.2.1, .string k.2.2.1, .string k.2.2.2, .int .i64 k.1, v]

set_option maxHeartbeats 4000000 in
theorem compare_gr (x y : Kt) (xv yv : Value) (w : World) : Calls Try.prog 18 #[eV x xv, eV y yv] w fun e w' => e = .returned (.int .i64 (cmpK x y)) ∧ Gr w w' := by
  rw [cmpK_or]
  obtain ⟨xt, xf, xo, xl⟩ := x
  obtain ⟨yt, yf, yo, yl⟩ := y
  unfold eV
  go_enter Try.func18, Try.ntmps18
  go_wp2_with fail
  have a1 : ((w.alloc (.cells #[.string xf, .string xo, .string xl, .int .i64 xt, xv] 24)).alloc (.cells #[.string yf, .string yo, .string yl, .int .i64 yt, yv] 24)).heap[w.heap.size]? = some (.cells #[.string xf, .string xo, .string xl, .int .i64 xt, xv] 24 (0, 0)) := (Below.heap_alloc _ _ _ (by simp)).trans (heap_alloc_new w _)
  have a2 : ((w.alloc (.cells #[.string xf, .string xo, .string xl, .int .i64 xt, xv] 24)).alloc (.cells #[.string yf, .string yo, .string yl, .int .i64 yt, yv] 24)).heap[w.heap.size + 1]? = some (.cells #[.string yf, .string yo, .string yl, .int .i64 yt, yv] 24 (0, 0)) := by have h := heap_alloc_new (w.alloc (.cells #[.string xf, .string xo, .string xl, .int .i64 xt, xv] 24)) (.cells #[.string yf, .string yo, .string yl, .int .i64 yt, yv] 24); rw [World.size_alloc] at h; exact h
  have q0 := cell_of_row _ _ 0 _ 24 (0, 0) a1
  have q1 := cell_of_row _ _ 1 _ 24 (0, 0) a1
  have q2 := cell_of_row _ _ 2 _ 24 (0, 0) a1
  have q3 := cell_of_row _ _ 3 _ 24 (0, 0) a1
  have r0 := cell_of_row _ _ 0 _ 24 (0, 0) a2
  have r1 := cell_of_row _ _ 1 _ 24 (0, 0) a2
  have r2 := cell_of_row _ _ 2 _ 24 (0, 0) a2
  have r3 := cell_of_row _ _ 3 _ 24 (0, 0) a2
  have hgw : Gr w ((w.alloc (.cells #[.string xf, .string xo, .string xl, .int .i64 xt, xv] 24)).alloc (.cells #[.string yf, .string yo, .string yl, .int .i64 yt, yv] 24)) := ((Gr.refl w).alloc _).alloc _
  clear a1 a2
  have HGW := Lib.hid hgw
  clear hgw
  generalize (w.alloc (.cells #[.string xf, .string xo, .string xl, .int .i64 xt, xv] 24)).alloc (.cells #[.string yf, .string yo, .string yl, .int .i64 yt, yv] 24) = w0 at *
  generalize w.heap.size + 1 = B at *
  generalize hA : w.heap.size = A at q0 q1 q2 q3 ⊢
  clear hA
  go_region_held3 (fun w' => w'.cell? ⟨A, 0, none⟩ = some (.string xf) ∧ w'.cell? ⟨A, 1, none⟩ = some (.string xo) ∧ w'.cell? ⟨A, 2, none⟩ = some (.string xl) ∧ w'.cell? ⟨A, 3, none⟩ = some (.int .i64 xt) ∧ w'.cell? ⟨B, 0, none⟩ = some (.string yf) ∧ w'.cell? ⟨B, 1, none⟩ = some (.string yo) ∧ w'.cell? ⟨B, 2, none⟩ = some (.string yl) ∧ w'.cell? ⟨B, 3, none⟩ = some (.int .i64 yt)) (first | exact ⟨q0, q1, q2, q3, r0, r1, r2, r3⟩ | (go_keep; done)) (first | (go_at_call 52; refine (cmpI_any _ _ _).mono ?_; rintro e w' ⟨rfl, rfl⟩) | (go_at_call 53; refine (cmpT_any _ _ _).mono ?_; rintro e w' ⟨rfl, rfl⟩) | (go_at_call 51; refine (or_new _ _ _ _ _ _ rfl).mono ?_; rintro e w' ⟨rfl, rfl⟩))
  go_wp2_with fail
  go_ret
  exact ⟨rfl, (HGW.out.alloc _).drew⟩
end Go.Proofs.Ytpoefcpgcojppaa
