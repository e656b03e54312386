/- Walk of what tells whether an edge is right: the program's. -/
import Derived.Test.YtpoefcpgcojppaaPB
namespace Go.Proofs.Ytpoefcpgcojppaa
open Go.ChangeShapes Go.WideShapes Go.ChangeAt Go.RowKit
set_option linter.unusedVariables false

/-- an edge's five cells in a block of its own -/
structure Bx5 (w : World) (b : Nat) (v0 v1 v2 v3 v4 : Value) : Prop where
  c0 : w.cell? ⟨b, 0, none⟩ = some v0
  c1 : w.cell? ⟨b, 1, none⟩ = some v1
  c2 : w.cell? ⟨b, 2, none⟩ = some v2
  c3 : w.cell? ⟨b, 3, none⟩ = some v3
  c4 : w.cell? ⟨b, 4, none⟩ = some v4
  lt : b < w.heap.size
theorem Bx5.of {w : World} {b : Nat} {v0 v1 v2 v3 v4 : Value} {t : TypeId} (h : w.heap[b]? = some (.cells #[v0, v1, v2, v3, v4] t (0, 0))) : Bx5 w b v0 v1 v2 v3 v4 :=
  ⟨by rw [cell_of_row _ _ 0 _ t (0, 0) h]; rfl, by rw [cell_of_row _ _ 1 _ t (0, 0) h]; rfl, by rw [cell_of_row _ _ 2 _ t (0, 0) h]; rfl, by rw [cell_of_row _ _ 3 _ t (0, 0) h]; rfl, by rw [cell_of_row _ _ 4 _ t (0, 0) h]; rfl, (Array.getElem?_eq_some_iff.1 h).1⟩
theorem Bx5.new (w : World) (v0 v1 v2 v3 v4 : Value) (t : TypeId) : Bx5 (w.alloc (.cells #[v0, v1, v2, v3, v4] t)) w.heap.size v0 v1 v2 v3 v4 := Bx5.of (heap_alloc_new w _)
theorem Bx5.belowN {w w' : World} {b N : Nat} {v0 v1 v2 v3 v4 : Value} (h : Bx5 w b v0 v1 v2 v3 v4) (hb : Below N w w') (hlt : b < N) : Bx5 w' b v0 v1 v2 v3 v4 :=
  ⟨(hb.cell (p := ⟨b, 0, none⟩) hlt).trans h.c0, (hb.cell (p := ⟨b, 1, none⟩) hlt).trans h.c1, (hb.cell (p := ⟨b, 2, none⟩) hlt).trans h.c2, (hb.cell (p := ⟨b, 3, none⟩) hlt).trans h.c3, (hb.cell (p := ⟨b, 4, none⟩) hlt).trans h.c4, Nat.lt_of_lt_of_le h.lt hb.size⟩
theorem Bx5.below {w w' : World} {b : Nat} {v0 v1 v2 v3 v4 : Value} (h : Bx5 w b v0 v1 v2 v3 v4) (hb : Below w.heap.size w w') : Bx5 w' b v0 v1 v2 v3 v4 := h.belowN hb h.lt

def CheckR (e : Ed) (w : World) (x : Ending) (w' : World) : Prop := x = .returned (.int .i64 (checkE e)) ∧ Below w.heap.size w w'
theorem chn {w a b : World} (h : Below w.heap.size w a) (k : Below a.heap.size a b) : Below w.heap.size w b := h.trans (k.mono h.size)

set_option maxHeartbeats 4000000 in
theorem check_any {w : World} {pv : Value} {e : Ed} (h : PR w pv e.props) (hs : SzE e) : Calls Try.prog 16 #[e.v pv] w (CheckR e w) := by
  unfold CheckR
  obtain ⟨z1, z2, z3, z4⟩ := hs
  have hf1 := fun W => vertex_any e.src W (le_max z1)
  have hf2 := fun W => vertex_any e.dst W (le_max z2)
  have hf3 := fun W => free_any e.lab W (le_max z3)
  have hf4 := fun W (hW : Below w.heap.size w W) => areProps_any (h.below hW) z4
  have hf5 := fun W => is_any e.time W
  unfold PropsR at hf4
  have hchk : checkE e = if verB e.src = true ∧ verB e.dst = true ∧ freB e.lab = true ∧ areB e.props = true then (if timeB e.time = true then 0 else 6) else 2 := by
    unfold checkE
    by_cases hp : areP e.props
    · simp [hp, (areB_iff _).2 hp]
    · simp [hp, areB_not _ hp]
  have HCHK := Lib.hid hchk
  clear hchk
  obtain ⟨b1, hb1⟩ : ∃ b, verB e.src = b := ⟨_, rfl⟩
  obtain ⟨b2, hb2⟩ : ∃ b, verB e.dst = b := ⟨_, rfl⟩
  obtain ⟨b3, hb3⟩ : ∃ b, freB e.lab = b := ⟨_, rfl⟩
  obtain ⟨b4, hb4⟩ : ∃ b, areB e.props = b := ⟨_, rfl⟩
  obtain ⟨b5, hb5⟩ : ∃ b, timeB e.time = b := ⟨_, rfl⟩
  rw [hb1] at hf1
  rw [hb2] at hf2
  rw [hb3] at hf3
  rw [hb4] at hf4
  rw [hb5] at hf5
  have HCE : Hid (checkE e = if b1 = true ∧ b2 = true ∧ b3 = true ∧ b4 = true then (if b5 = true then 0 else 6) else 2) := by
    show _ = _
    rw [HCHK.out, hb1, hb2, hb3, hb4, hb5]
  have F1 := Lib.hid hf1
  have F2 := Lib.hid hf2
  have F3 := Lib.hid hf3
  have F4 := Lib.hid hf4
  have F5 := Lib.hid hf5
  clear hf1 hf2 hf3 hf4 hf5 hb1 hb2 hb3 hb4 hb5 HCHK z1 z2 z3 z4 h
  unfold Ed.v
  generalize e.src = s at *
  generalize e.dst = d at *
  generalize e.lab = l at *
  generalize e.time = t at *
  have HX0 := Lib.hid (Bx5.new w (.string s) (.string d) (.string l) (.int .i64 t) pv 24)
  have HW0 := Lib.hid ((Below.refl w.heap.size w).alloc (Nat.le_refl _) (.cells #[.string s, .string d, .string l, .int .i64 t, pv] 24))
  cases b1 with
  | false =>
    go_enter Try.func16, Try.ntmps16
    go_wp2_with (go_at_call 43; refine (F1.out _).mono ?_; clear F1; rintro x w1 ⟨rfl, k1⟩; obtain ⟨y0, y1, y2, y3, y4, _⟩ := HX0.out.below k1)
    go_ret
    exact ⟨ret_int (by rw [HCE.out]; simp), chn HW0.out k1⟩
  | true =>
    cases b2 with
    | false =>
      go_enter Try.func16, Try.ntmps16
      go_wp2_with (go_at_call 43; first | (refine (F1.out _).mono ?_; clear F1; rintro x w1 ⟨rfl, k1⟩; have HX1 := Lib.hid (HX0.out.below k1); obtain ⟨y0, y1, y2, y3, y4, _⟩ := HX1.out) | (refine (F2.out _).mono ?_; clear F2; rintro x w2 ⟨rfl, k2⟩; obtain ⟨z0, z1, z2, z3, z4, _⟩ := HX1.out.below k2))
      go_ret
      exact ⟨ret_int (by rw [HCE.out]; simp), chn (chn HW0.out k1) k2⟩
    | true =>
      cases b3 with
      | false =>
        go_enter Try.func16, Try.ntmps16
        go_wp2_with (first | (go_at_call 43; first | (refine (F1.out _).mono ?_; clear F1; rintro x w1 ⟨rfl, k1⟩; have HX1 := Lib.hid (HX0.out.below k1); obtain ⟨y0, y1, y2, y3, y4, _⟩ := HX1.out) | (refine (F2.out _).mono ?_; clear F2; rintro x w2 ⟨rfl, k2⟩; have HX2 := Lib.hid (HX1.out.below k2); obtain ⟨z0, z1, z2, z3, z4, _⟩ := HX2.out)) | (go_at_call 44; refine (F3.out _).mono ?_; clear F3; rintro x w3 ⟨rfl, k3⟩))
        go_ret
        exact ⟨ret_int (by rw [HCE.out]; simp), chn (chn (chn HW0.out k1) k2) k3⟩
      | true =>
        cases b4 with
        | false =>
          go_enter Try.func16, Try.ntmps16
          go_wp2_with (first | (go_at_call 43; first | (refine (F1.out _).mono ?_; clear F1; rintro x w1 ⟨rfl, k1⟩; have HX1 := Lib.hid (HX0.out.below k1); obtain ⟨y0, y1, y2, y3, y4, _⟩ := HX1.out) | (refine (F2.out _).mono ?_; clear F2; rintro x w2 ⟨rfl, k2⟩; have HX2 := Lib.hid (HX1.out.below k2); obtain ⟨z0, z1, z2, z3, z4, _⟩ := HX2.out)) | (go_at_call 44; refine (F3.out _).mono ?_; clear F3; rintro x w3 ⟨rfl, k3⟩; have HX3 := Lib.hid (HX2.out.below k3); obtain ⟨u0, u1, u2, u3, u4, _⟩ := HX3.out; have HW3 := Lib.hid (chn (chn (chn HW0.out k1) k2) k3)) | (go_at_call 45; refine (F4.out _ HW3.out).mono ?_; clear F4; rintro x w4 ⟨rfl, k4⟩))
          go_ret
          exact ⟨ret_int (by rw [HCE.out]; simp), chn HW3.out k4⟩
        | true =>
          cases b5 with
          | false =>
            go_enter Try.func16, Try.ntmps16
            go_wp2_with (first | (go_at_call 43; first | (refine (F1.out _).mono ?_; clear F1; rintro x w1 ⟨rfl, k1⟩; have HX1 := Lib.hid (HX0.out.below k1); obtain ⟨y0, y1, y2, y3, y4, _⟩ := HX1.out) | (refine (F2.out _).mono ?_; clear F2; rintro x w2 ⟨rfl, k2⟩; have HX2 := Lib.hid (HX1.out.below k2); obtain ⟨z0, z1, z2, z3, z4, _⟩ := HX2.out)) | (go_at_call 44; refine (F3.out _).mono ?_; clear F3; rintro x w3 ⟨rfl, k3⟩; have HX3 := Lib.hid (HX2.out.below k3); obtain ⟨u0, u1, u2, u3, u4, _⟩ := HX3.out; have HW3 := Lib.hid (chn (chn (chn HW0.out k1) k2) k3)) | (go_at_call 45; refine (F4.out _ HW3.out).mono ?_; clear F4; rintro x w4 ⟨rfl, k4⟩; have HX4 := Lib.hid (HX3.out.below k4); obtain ⟨x0, x1, x2, x3, x4, _⟩ := HX4.out) | (go_at_call 46; refine (F5.out _).mono ?_; clear F5; rintro x w5 ⟨rfl, k5⟩))
            go_ret
            exact ⟨ret_int (by rw [HCE.out]; simp), chn (chn HW3.out k4) k5.below⟩
          | true =>
            go_enter Try.func16, Try.ntmps16
            go_wp2_with (first | (go_at_call 43; first | (refine (F1.out _).mono ?_; clear F1; rintro x w1 ⟨rfl, k1⟩; have HX1 := Lib.hid (HX0.out.below k1); obtain ⟨y0, y1, y2, y3, y4, _⟩ := HX1.out) | (refine (F2.out _).mono ?_; clear F2; rintro x w2 ⟨rfl, k2⟩; have HX2 := Lib.hid (HX1.out.below k2); obtain ⟨z0, z1, z2, z3, z4, _⟩ := HX2.out)) | (go_at_call 44; refine (F3.out _).mono ?_; clear F3; rintro x w3 ⟨rfl, k3⟩; have HX3 := Lib.hid (HX2.out.below k3); obtain ⟨u0, u1, u2, u3, u4, _⟩ := HX3.out; have HW3 := Lib.hid (chn (chn (chn HW0.out k1) k2) k3)) | (go_at_call 45; refine (F4.out _ HW3.out).mono ?_; clear F4; rintro x w4 ⟨rfl, k4⟩; have HX4 := Lib.hid (HX3.out.below k4); obtain ⟨x0, x1, x2, x3, x4, _⟩ := HX4.out) | (go_at_call 46; refine (F5.out _).mono ?_; clear F5; rintro x w5 ⟨rfl, k5⟩))
            go_ret
            exact ⟨ret_int (by rw [HCE.out]; simp), chn (chn HW3.out k4) k5.below⟩
end Go.Proofs.Ytpoefcpgcojppaa
