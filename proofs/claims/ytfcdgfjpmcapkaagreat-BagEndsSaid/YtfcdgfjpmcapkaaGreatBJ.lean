/- Walks: is the entry of an end gone; the first end that is. -/
import Derived.Test.YtfcdgfjpmcapkaaGreatBI
import Derived.Test.YtfcdgfjpmcapkaaGreatHI
namespace Go.Proofs.YtfcdgfjpmcapkaaGreat
open Go.ChangeShapes Go.WideShapes Go.ChangeAt Go.RowKit Go.Maps
set_option linter.unusedVariables false

variable {w : World} {b mr mp : Nat} {Ks : List (ByteArray × Nat)} {E : List En} {n hb : Nat}

theorem endS_next {w w1 w2 : World} {r i : Nat} {v : Value} (h : w1.cell? ⟨r, i, none⟩ = some v ∧ Below w.heap.size w w1) (hr : r < w.heap.size) (hb : Below w1.heap.size w1 w2) : w2.cell? ⟨r, i, none⟩ = some v ∧ Below w.heap.size w w2 :=
  ⟨(hb.cell (p := ⟨r, i, none⟩) (by have := h.2.size; show r < _; omega)).trans h.1, h.2.trans (hb.mono h.2.size)⟩
theorem endS_set {w w1 : World} {r i g k : Nat} {v : Value} (h : w1.cell? ⟨r, i, none⟩ = some v ∧ Below w.heap.size w w1) (hr : r < w.heap.size) (hg : w.heap.size ≤ g) (u : Value) : (w1.setCell ⟨g, k, none⟩ u).cell? ⟨r, i, none⟩ = some v ∧ Below w.heap.size w (w1.setCell ⟨g, k, none⟩ u) :=
  ⟨(World.cell?_of_block (a := ⟨r, i, none⟩) (Below.heap_setCell _ _ _ _ (by show r ≠ g; omega))).trans h.1, h.2.setCell hg _⟩
theorem local1 {w w3 : World} {u v : Value} {t : TypeId} (h : Below (w.drew.alloc (.cells #[u, v] t)).heap.size (w.drew.alloc (.cells #[u, v] t)) w3) :
    w3.heap[w.heap.size]? = some (.cells #[u, v] t (0, 0)) ∧ w.heap.size < w3.heap.size ∧ w3.cell? ⟨w.heap.size, 0, none⟩ = some u ∧ w3.cell? ⟨w.heap.size, 1, none⟩ = some v ∧ w3.frozen? ⟨w.heap.size, 0, none⟩ = false ∧ w3.frozen? ⟨w.heap.size, 1, none⟩ = false := by
  have x : w3.heap[w.heap.size]? = some (.cells #[u, v] t (0, 0)) := (h.block w.drew.heap.size (by simp)).trans (heap_alloc_new w.drew _)
  exact ⟨x, (Array.getElem?_eq_some_iff.1 x).1, cell_of_row _ _ 0 _ t (0, 0) x, cell_of_row _ _ 1 _ t (0, 0) x, frozen_of_row x 0, frozen_of_row x 1⟩
/-- the entry of an end is there -/
def live (E : List En) (x : It) : Bool := (atN E x.2).isSome

set_option maxRecDepth 100000 in
set_option maxHeartbeats 1000000 in
theorem gone_bag (h : Ix w b mr mp Ks E n hb) (x : It) (hm : (Lit.int .i64 x.2).wf = true) : Calls Tryz.prog 50 #[.pointer (some ⟨b, 0, none⟩), .agg #[.int .i64 x.1, .int .i64 x.2]] w fun e w' => e = .returned (.bool (!live E x)) ∧ Below w.heap.size w w' := by
  have H := Lib.hid h
  obtain ⟨k, m⟩ := x
  simp only at hm ⊢
  unfold live
  simp only
  obtain ⟨c, hc⟩ : ∃ c, (atN E m).isSome = c := ⟨_, rfl⟩
  obtain ⟨s, v, hv⟩ : ∃ s v, atV (atN E m) = .agg #[.string s, .int .i64 v] := by cases atN E m <;> exact ⟨_, _, rfl⟩
  rw [hc]
  have HC := Lib.hid hc
  have HV := Lib.hid hv
  clear h hc hv
  go_enter Tryz.func50, Tryz.ntmps50
  go_upto_region 1 with (fail)
  obtain ⟨W1, hW1⟩ : ∃ W1, w.alloc (.cells #[.int .i64 k, .int .i64 m] 74) = W1 := ⟨_, rfl⟩
  have hloc : W1.heap[w.heap.size]? = some (.cells #[.int .i64 k, .int .i64 m] 74 (0, 0)) := by rw [← hW1]; exact heap_alloc_new _ _
  have hbW : Below w.heap.size w W1 := by rw [← hW1]; exact (Below.refl _ _).alloc (Nat.le_refl _) _
  rw [hW1]
  have HI := Lib.hid (H.out.below hbW)
  have HBW := Lib.hid hbW
  obtain ⟨c0, c1, c2, c3, c4, f3, f4⟩ := HI.out.cells
  have d1 := cell_of_row _ _ 1 _ 74 (0, 0) hloc
  have hlX := (Array.getElem?_eq_some_iff.1 hloc).1
  have hat : ∀ W, Below W1.heap.size W1 W → Calls Tryz.prog 40 #[.pointer (some ⟨b, 1, none⟩), .int .i64 m] W fun e w' => e = .returned (.tuple #[.agg #[.string s, .int .i64 v], .bool c]) ∧ Below W.heap.size W w' := fun W hW => by
    have := at_bag (HI.out.below hW) m hm
    rw [HC.out, HV.out] at this
    exact this
  have HAT := Lib.hid hat
  have HD1 := Lib.hid d1
  have hlb1 := HI.out.lt (.inl rfl)
  clear hW1 hloc hbW hat
  have S0 := Lib.hid (show W1.drew.cell? ⟨w.heap.size, 1, none⟩ = some (.int .i64 m) ∧ Below W1.heap.size W1 W1.drew from ⟨(World.cell?_drew W1 _).trans HD1.out, (Below.refl _ _).drew⟩)
  go_region_held3 (fun w' => w'.cell? ⟨w.heap.size, 1, none⟩ = some (.int .i64 m) ∧ Below W1.heap.size W1 w')
    (first | exact S0.out | exact HS3.out | exact HS4.out | exact endS_next S0.out hlX ((Below.refl _ _).alloc (Nat.le_refl _) _) | exact endS_next HS3.out hlX ((Below.refl _ _).alloc (Nat.le_refl _) _) | exact endS_set (endS_set HS4.out hlX (Nat.le_refl _) _) hlX (Nat.le_refl _) _ | (go_keep; done))
    (first
      | (go_at_call 40; refine (HAT.out _ (Below.refl _ _).drew).mono ?_; rintro e w3 ⟨rfl, hb3⟩; have HS3 := Lib.hid (endS_next S0.out hlX hb3); clear hb3)
      | (go_at_call 40; refine (HAT.out _ ((Below.refl _ _).drew.alloc (Nat.le_refl _) _)).mono ?_; rintro e w4 ⟨rfl, hb4⟩; have HS4 := Lib.hid (endS_next (endS_next S0.out hlX ((Below.refl _ _).alloc (Nat.le_refl _) _)) hlX hb4); obtain ⟨x5, hl5, k0, k1, q0, q1⟩ := local1 hb4; clear hb4 x5))
  all_goals go_wp2_with fail
  all_goals go_ret
  all_goals refine ⟨rfl, ?_⟩
  all_goals first
    | exact HBW.out.trans ((endS_next HS3.out hlX ((Below.refl _ _).alloc (Nat.le_refl _) _)).2.mono HBW.out.size)
    | exact HBW.out.trans ((endS_set (endS_set HS4.out hlX (Nat.le_refl _) _) hlX (Nat.le_refl _) _).2.mono HBW.out.size)
end Go.Proofs.YtfcdgfjpmcapkaaGreat
