/- Walks of what holds of two values, of values made. -/
import Derived.Test.YtadjgjbkjhallaaDoorG
namespace Go.Proofs.YtadjgjbkjhallaaDoor
open Go.ChangeShapes Go.WideShapes Go.ChangeAt Go.RowKit
set_option linter.unusedVariables false

def holdB (op c : Int) : Bool := decide ((op = 1 ∧ c = 0) ∨ (op = 2 ∧ c ≠ 0) ∨ (op = 3 ∧ c < 0) ∨ (op = 4 ∧ c ≤ 0) ∨ (op = 5 ∧ 0 < c) ∨ (op = 6 ∧ 0 ≤ c))
def HoldR (op : Int) (x y : Vt) (w : World) (e : Ending) (w' : World) : Prop := e = .returned (.bool (holdB op (cmpV x y))) ∧ Gr w w'

theorem op_cases (op : Int) : op = 1 ∨ op = 2 ∨ op = 3 ∨ op = 4 ∨ op = 5 ∨ op = 6 ∨ (op ≠ 1 ∧ op ≠ 2 ∧ op ≠ 3 ∧ op ≠ 4 ∧ op ≠ 5 ∧ op ≠ 6) := by omega

theorem holds_any (op : Int) (x y : Vt) (w : World) : Calls Tryd.prog 10 #[.int .i64 op, .agg #[.int .i64 x.1, .int .i64 x.2.1, .string x.2.2], .agg #[.int .i64 y.1, .int .i64 y.2.1, .string y.2.2]] w (HoldR op x y w) := by
  have hcmp := fun W => compare_gr x y W
  unfold HoldR
  obtain ⟨k1, n1, t1⟩ := x
  obtain ⟨k2, n2, t2⟩ := y
  generalize cmpV (k1, n1, t1) (k2, n2, t2) = c at hcmp ⊢
  have HC := Lib.hid hcmp
  clear hcmp
  rcases op_cases op with h | h | h | h | h | h | ⟨h1, h2, h3, h4, h5, h6⟩
  iterate 6
    · subst h
      go_enter Tryd.func10, Tryd.ntmps10
      go_wp2_with (go_at_call 8; refine (HC.out _).mono ?_; rintro e w1 ⟨rfl, hg⟩)
      go_ret
      exact ⟨ret_bool (by rw [Bool.eq_iff_iff]; simp [holdB]), (((Gr.refl w).alloc _).alloc _).trans hg⟩
  · have HE := Lib.hid (show holdB op c = false by unfold holdB; rw [decide_eq_false_iff_not]; omega)
    have b1 : (op == 1) = false := by simpa using h1
    have b2 : (op == 2) = false := by simpa using h2
    have b3 : (op == 3) = false := by simpa using h3
    have b4 : (op == 4) = false := by simpa using h4
    have b5 : (op == 5) = false := by simpa using h5
    have b6 : (op == 6) = false := by simpa using h6
    clear h1 h2 h3 h4 h5 h6
    go_enter Tryd.func10, Tryd.ntmps10
    go_wp2_with (go_at_call 8; refine (HC.out _).mono ?_; rintro e w1 ⟨rfl, hg⟩)
    go_ret
    exact ⟨ret_bool HE.out.symm, (((Gr.refl w).alloc _).alloc _).trans hg⟩

theorem rHolds_any (op : Int) (x y : Vt) (w : World) : Calls Tryd.prog 11 #[.int .i64 op, .agg #[.int .i64 x.1, .int .i64 x.2.1, .string x.2.2], .agg #[.int .i64 y.1, .int .i64 y.2.1, .string y.2.2]] w (HoldR op x y w) := by
  have hcmp := fun W => rCompare_any x y W
  unfold HoldR
  unfold CmpR at hcmp
  obtain ⟨k1, n1, t1⟩ := x
  obtain ⟨k2, n2, t2⟩ := y
  generalize cmpV (k1, n1, t1) (k2, n2, t2) = c at hcmp ⊢
  have HC := Lib.hid hcmp
  clear hcmp
  rcases op_cases op with h | h | h | h | h | h | ⟨h1, h2, h3, h4, h5, h6⟩
  iterate 6
    · subst h
      go_enter Tryd.func11, Tryd.ntmps11
      go_wp2_with (go_at_call 9; refine (HC.out _).mono ?_; rintro e w1 ⟨rfl, hg⟩)
      go_ret
      exact ⟨ret_bool (by rw [Bool.eq_iff_iff]; simp [holdB]), (((Gr.refl w).alloc _).alloc _).trans hg⟩
  · have HE := Lib.hid (show holdB op c = false by unfold holdB; rw [decide_eq_false_iff_not]; omega)
    have b1 : (op == 1) = false := by simpa using h1
    have b2 : (op == 2) = false := by simpa using h2
    have b3 : (op == 3) = false := by simpa using h3
    have b4 : (op == 4) = false := by simpa using h4
    have b5 : (op == 5) = false := by simpa using h5
    have b6 : (op == 6) = false := by simpa using h6
    clear h1 h2 h3 h4 h5 h6
    go_enter Tryd.func11, Tryd.ntmps11
    go_wp2_with (go_at_call 9; refine (HC.out _).mono ?_; rintro e w1 ⟨rfl, hg⟩)
    go_ret
    exact ⟨ret_bool HE.out.symm, (((Gr.refl w).alloc _).alloc _).trans hg⟩

theorem num_any (n : Int) (w : World) : Calls Tryd.prog 14 #[.int .i64 n] w fun e w' => e = .returned (.agg #[.int .i64 1, .int .i64 n, .string ⟨#[]⟩]) ∧ Below w.heap.size w w' := by
  go_enter Tryd.func14, Tryd.ntmps14
  go_wp2
  refine bodyPost_ret (v := .agg #[.int .i64 1, .int .i64 n, .string ⟨#[]⟩]) (by simp [results, Tryd.results14, go_sem]) rfl ⟨rfl, ?_⟩
  go_grown

theorem clone_any (s : ByteArray) (w : World) (hlim : s.size ≤ 281474976710656) : Calls Tryd.prog 33 #[.string s] w fun e w' => e = .returned (.string s) ∧ Below w.heap.size w w' := by
  go_enter Tryd.func33, Tryd.ntmps33
  go_wp2_with (go_at_call 44; refine (Tryd.stringslite_Clone s _ hlim).mono ?_; rintro e w1 ⟨rfl, hb⟩)
  go_ret
  exact ⟨rfl, hb⟩

/-- a struct of three cells in a block of its own -/
structure Bx (w : World) (b : Nat) (x y z : Value) : Prop where
  c0 : w.cell? ⟨b, 0, none⟩ = some x
  c1 : w.cell? ⟨b, 1, none⟩ = some y
  c2 : w.cell? ⟨b, 2, none⟩ = some z
  f0 : w.frozen? ⟨b, 0, none⟩ = false
  f1 : w.frozen? ⟨b, 1, none⟩ = false
  f2 : w.frozen? ⟨b, 2, none⟩ = false
theorem Bx.of {w : World} {b : Nat} {x y z : Value} {t : TypeId} (h : w.heap[b]? = some (.cells #[x, y, z] t (0, 0))) : Bx w b x y z :=
  ⟨by rw [cell_of_row _ _ 0 _ t (0, 0) h]; rfl, by rw [cell_of_row _ _ 1 _ t (0, 0) h]; rfl, by rw [cell_of_row _ _ 2 _ t (0, 0) h]; rfl,
    by simp [World.frozen?, h], by simp [World.frozen?, h], by simp [World.frozen?, h]⟩
theorem Bx.new (w : World) (x y z : Value) (t : TypeId) : Bx (w.alloc (.cells #[x, y, z] t)) w.heap.size x y z := Bx.of (heap_alloc_new w _)
theorem Bx.below {w w' : World} {b N : Nat} {x y z : Value} (h : Bx w b x y z) (hb : Below N w w') (hlt : b < N) : Bx w' b x y z :=
  ⟨(hb.cell (p := ⟨b, 0, none⟩) hlt).trans h.c0, (hb.cell (p := ⟨b, 1, none⟩) hlt).trans h.c1, (hb.cell (p := ⟨b, 2, none⟩) hlt).trans h.c2,
    (hb.frozen (p := ⟨b, 0, none⟩) hlt).trans h.f0, (hb.frozen (p := ⟨b, 1, none⟩) hlt).trans h.f1, (hb.frozen (p := ⟨b, 2, none⟩) hlt).trans h.f2⟩

theorem text_any (s : ByteArray) (w : World) (hlim : s.size ≤ 281474976710656) : Calls Tryd.prog 15 #[.string s] w fun e w' => e = .returned (.agg #[.int .i64 2, .int .i64 0, .string s]) ∧ Below w.heap.size w w' := by
  go_enter Tryd.func15, Tryd.ntmps15
  have HN := Lib.hid (Bx.new w (.int .i64 0) (.int .i64 0) (.string ⟨#[]⟩) 25)
  have HL := Lib.hid ((Below.refl _ w).alloc (Nat.le_refl _) (.cells #[.int .i64 0, .int .i64 0, .string ⟨#[]⟩] 25))
  go_wp2_with fail
  refine (clone_any s _ hlim).mono ?_
  rintro e w1 ⟨rfl, hb⟩
  obtain ⟨q0, q1, q2, f0, f1, f2⟩ := HN.out.below hb (by simp)
  have hlow2 : Below w.heap.size w w1 := HL.out.trans (hb.mono (by simp))
  obtain ⟨A, hA⟩ : ∃ A, w.heap.size = A := ⟨_, rfl⟩
  rw [hA] at q0 q1 q2 f0 f1 f2 hlow2 ⊢
  have HA := Lib.hid hA
  clear hb hA HL HN
  go_wp2_with fail
  refine bodyPost_ret (v := .agg #[.int .i64 2, .int .i64 0, .string s]) (by simp [results, Tryd.results15, go_sem, q0, q1, q2, f0, f1, f2]) rfl ⟨rfl, ?_⟩
  rw [HA.out]
  go_grown
end Go.Proofs.YtadjgjbkjhallaaDoor
