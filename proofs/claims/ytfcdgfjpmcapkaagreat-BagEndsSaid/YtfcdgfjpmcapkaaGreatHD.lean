/- Walks of two items held against each other, of places. -/
import Derived.Test.YtfcdgfjpmcapkaaGreatHC
import Derived.Deep.RegionHeld3
import Derived.Deep.RegionWith
namespace Go.Proofs.YtfcdgfjpmcapkaaGreat
open Go.ChangeShapes Go.WideShapes Go.ChangeAt Go.RowKit
set_option linter.unusedVariables false

def orV (a b : Int) : Int := if a = 0 then b else a
theorem cmpV_or' (x y : It) : cmpV x y = orV (cmp1 x.1 y.1) (cmp1 x.2 y.2) := cmpV_or x y

theorem or_new (a b : Int) (W : World) (k : Nat) (hk : k = W.heap.size) :
    Calls Tryz.prog 84 #[.slice (some ⟨k, 0, none⟩) 2 2] (W.alloc (.cells #[.int .i64 a, .int .i64 b] 3)).drew fun e w' => e = .returned (.int .i64 (orV a b)) ∧ (W.alloc (.cells #[.int .i64 a, .int .i64 b] 3)).drew = w' := by
  subst hk
  have hg := heap_alloc_new W (.cells #[.int .i64 a, .int .i64 b] 3)
  refine or_any a b _ _ ?_ ?_
  · rw [World.cell?_drew, cell_of_row _ _ 0 _ 3 (0, 0) hg]; rfl
  · rw [World.cell?_drew, cell_of_row _ _ 1 _ 3 (0, 0) hg]; rfl

set_option maxHeartbeats 1000000 in
theorem compare_any (x y : It) (w : World) : Calls Tryz.prog 73 #[.agg #[.int .i64 x.1, .int .i64 x.2], .agg #[.int .i64 y.1, .int .i64 y.2]] w fun e w' => e = .returned (.int .i64 (cmpV x y)) ∧ Below w.heap.size w w' := by
  rw [cmpV_or']
  obtain ⟨x1, x2⟩ := x
  obtain ⟨y1, y2⟩ := y
  go_enter Tryz.func73, Tryz.ntmps73
  go_wp2_with fail
  have hb : Below w.heap.size w ((w.alloc (.cells #[.int .i64 x1, .int .i64 x2] 74)).alloc (.cells #[.int .i64 y1, .int .i64 y2] 74)) := ((Below.refl _ _).alloc (Nat.le_refl _) _).alloc (by simp) _
  have a1 : ((w.alloc (.cells #[.int .i64 x1, .int .i64 x2] 74)).alloc (.cells #[.int .i64 y1, .int .i64 y2] 74)).heap[w.heap.size]? = some (.cells #[.int .i64 x1, .int .i64 x2] 74 (0, 0)) := (Below.heap_alloc _ _ _ (by simp)).trans (heap_alloc_new w _)
  have a2 : ((w.alloc (.cells #[.int .i64 x1, .int .i64 x2] 74)).alloc (.cells #[.int .i64 y1, .int .i64 y2] 74)).heap[w.heap.size + 1]? = some (.cells #[.int .i64 y1, .int .i64 y2] 74 (0, 0)) := by have h := heap_alloc_new (w.alloc (.cells #[.int .i64 x1, .int .i64 x2] 74)) (.cells #[.int .i64 y1, .int .i64 y2] 74); rw [World.size_alloc] at h; exact h
  have q1 := cell_of_row _ _ 0 _ 74 (0, 0) a1
  have q2 := cell_of_row _ _ 1 _ 74 (0, 0) a1
  have q3 := cell_of_row _ _ 0 _ 74 (0, 0) a2
  have q4 := cell_of_row _ _ 1 _ 74 (0, 0) a2
  clear a1 a2
  generalize (w.alloc (.cells #[.int .i64 x1, .int .i64 x2] 74)).alloc (.cells #[.int .i64 y1, .int .i64 y2] 74) = w0 at *
  generalize w.heap.size + 1 = B at *
  generalize hA : w.heap.size = A at q1 q2 ⊢
  clear hA
  go_region_held3 (fun w' => w'.cell? ⟨A, 0, none⟩ = some (.int .i64 x1) ∧ w'.cell? ⟨A, 1, none⟩ = some (.int .i64 x2) ∧ w'.cell? ⟨B, 0, none⟩ = some (.int .i64 y1) ∧ w'.cell? ⟨B, 1, none⟩ = some (.int .i64 y2)) (first | exact ⟨q1, q2, q3, q4⟩ | (go_keep; done)) (first | (go_at_call 85; refine (cmp1_any _ _ _).mono ?_; rintro e w' ⟨rfl, rfl⟩) | (go_at_call 84; refine (or_new _ _ _ _ rfl).mono ?_; rintro e w' ⟨rfl, rfl⟩))
  go_wp2_with fail
  go_ret
  exact ⟨rfl, (hb.alloc hb.size _).drew⟩

theorem cmpV_lt (x y : It) : decide (cmpV x y < 0) = !le y x := cmpV_neg x y

set_option maxRecDepth 100000 in
/-- whether the item at a place is ahead of the one at another place -/
theorem ahead_any {w : World} {b : Nat} {sv : Value} {L : List It} (h : Hb w b sv L) (i j : Nat) (hi : i < L.length) (hj : j < L.length) (hL : L.length ≤ 1000000) :
    Calls Tryz.prog 67 #[.pointer (some ⟨b, 0, none⟩), .int .i64 (i : Int), .int .i64 (j : Int)] w fun e w' => e = .returned (.bool (!le (g L j) (g L i))) ∧ Below w.heap.size w w' := by
  obtain ⟨A, c, rfl, hf, hnc, _⟩ := row_form h.row
  obtain ⟨gg, rfl, _, hgl⟩ := hf (by omega)
  obtain ⟨c0, c1, c2⟩ := h.cells
  obtain ⟨k1, k2⟩ := row_at h.row hi
  obtain ⟨k3, k4⟩ := row_at h.row hj
  have hv := cmpV_lt (g L i) (g L j)
  obtain ⟨x, hx⟩ : ∃ x, g L i = x := ⟨_, rfl⟩
  obtain ⟨y, hy⟩ : ∃ y, g L j = y := ⟨_, rfl⟩
  rw [hx] at k1 k2
  rw [hy] at k3 k4
  rw [hx, hy] at hv
  rw [hx, hy, ← hv]
  have hlb := h.ltb
  clear h hf hv hx hy
  go_enter Tryz.func67, Tryz.ntmps67
  go_wp2_with fail
  go_still_tail 14, (by kernel_rfl)
  change wpList _ _ _ _ _ w.drew
  have hb0 : Below w.heap.size w w.drew := (Below.refl _ _).drew
  generalize w.drew = w2 at hb0 ⊢
  have HB0 := Lib.hid hb0
  clear hb0 c0 c1 c2 k1 k2 k3 k4
  go_wp2_with fail
  refine (compare_any x y _).mono ?_
  rintro e w3 ⟨rfl, hb3⟩
  have HB3 := Lib.hid hb3
  clear hb3
  obtain ⟨z, hz⟩ : ∃ z, cmpV x y = z := ⟨_, rfl⟩
  rw [hz]
  have HZ := Lib.hid hz
  clear hz
  go_wp2_with fail
  go_ret
  exact ⟨ret_bool (by rw [HZ.out]), HB0.out.trans (HB3.out.mono HB0.out.size)⟩
end Go.Proofs.YtfcdgfjpmcapkaaGreat
