/- Walk of what holds two values against the document's answer. -/
import Derived.Test.YtadjgjbkjhallaaDoorM
import Derived.Lib.QuietBelow
import Derived.BigQuiet
namespace Go.Proofs.YtadjgjbkjhallaaDoor
open Go.ChangeShapes Go.WideShapes Go.ChangeAt Go.RowKit
set_option linter.unusedVariables false

theorem eq25_same (W : World) (a b : Int) (c : ByteArray) : (binOp .eql 25 (.agg #[.int .i64 a, .int .i64 b, .string c]) (.agg #[.int .i64 a, .int .i64 b, .string c])).run Tryd.prog W = .ok (.bool true) W := by
  rw [eq25, decide_eq_true rfl]

set_option maxHeartbeats 4000000 in
set_option maxRecDepth 100000 in
theorem compares_any (op : Int) (x y : Vt) (w : World) (htab : Tb w) (hx : x.2.2.size ≤ 281474976710656) (hy : y.2.2.size ≤ 281474976710656) :
    Calls Tryd.prog 3 #[.int .i64 op, .agg #[.int .i64 x.1, .int .i64 x.2.1, .string x.2.2], .agg #[.int .i64 y.1, .int .i64 y.2.1, .string y.2.2]] w fun e w' => e = .returned (.bool true) ∧ Below w.heap.size w w' := by
  have H8 := Lib.hid (fun W => compare_gr x y W)
  have H9 := Lib.hid (fun W => rCompare_any x y W)
  have H10 := Lib.hid (fun W => holds_any op x y W)
  have H11 := Lib.hid (fun W => rHolds_any op x y W)
  have H12 := Lib.hid (fun W => right_any x W hx)
  have H13 := Lib.hid (fun W => rRight_any x W hx)
  have HT := Lib.hid htab
  clear htab
  have h8 := H8.out
  have h9 := H9.out
  have h10 := H10.out
  have h11 := H11.out
  have h12 := H12.out
  have h13 := H13.out
  clear H8 H9 H10 H11 H12 H13
  unfold CmpR at h9
  unfold HoldR at h10 h11
  unfold RightR at h12 h13
  generalize holdB op (cmpV x y) = hb at h10 h11
  generalize cmpV x y = c at h8 h9
  generalize rightV x = r at h12 h13
  obtain ⟨k1, n1, t1⟩ := x
  obtain ⟨k2, n2, t2⟩ := y
  simp only at hx hy
  have HX := Lib.hid (Bx.new w (.int .i64 k1) (.int .i64 n1) (.string t1) 25)
  have HY := Lib.hid (Bx.new (w.alloc (.cells #[.int .i64 k1, .int .i64 n1, .string t1] 25)) (.int .i64 k2) (.int .i64 n2) (.string t2) 25)
  have HL1 := Lib.hid ((Below.refl _ w).alloc (Nat.le_refl _) (.cells #[.int .i64 k1, .int .i64 n1, .string t1] 25))
  have HL2 := Lib.hid (HL1.out.alloc HL1.out.size (.cells #[.int .i64 k2, .int .i64 n2, .string t2] 25))
  have HH := Lib.hid (And.intro h8 (And.intro h9 (And.intro h10 (And.intro h11 (And.intro h12 h13)))))
  clear h8 h9 h10 h11 h12 h13
  go_enter Tryd.func3, Tryd.ntmps3
  go_wp2_with fail
  have hx0 : Bx ((w.alloc (.cells #[.int .i64 k1, .int .i64 n1, .string t1] 25)).alloc (.cells #[.int .i64 k2, .int .i64 n2, .string t2] 25)) w.heap.size (.int .i64 k1) (.int .i64 n1) (.string t1) := HX.out.below ((Below.refl _ (w.alloc (.cells #[.int .i64 k1, .int .i64 n1, .string t1] 25))).alloc (Nat.le_refl _) _) (by simp)
  have hy0 := HY.out
  rw [World.size_alloc] at hy0
  have hl0 := HL2.out
  have hz0 : ((w.alloc (.cells #[.int .i64 k1, .int .i64 n1, .string t1] 25)).alloc (.cells #[.int .i64 k2, .int .i64 n2, .string t2] 25)).heap.size = w.heap.size + 2 := by simp
  generalize (w.alloc (.cells #[.int .i64 k1, .int .i64 n1, .string t1] 25)).alloc (.cells #[.int .i64 k2, .int .i64 n2, .string t2] 25) = w0 at hx0 hy0 hl0 hz0 ⊢
  refine (HH.out.1 _).mono ?_
  rintro e w1 ⟨rfl, hg⟩
  have hb1 := hg.below
  obtain ⟨q0, q1, q2, _, _, _⟩ := hx0.below hb1 (by omega)
  obtain ⟨r0, r1, r2, _, _, _⟩ := hy0.below hb1 (by omega)
  have HB1 := Lib.hid (hl0.trans (hb1.mono hl0.size))
  have HT1 := Lib.hid (HT.out.below HB1.out)
  obtain ⟨A, hA⟩ : ∃ A, w.heap.size = A := ⟨_, rfl⟩
  obtain ⟨B, hB⟩ : ∃ B, w.heap.size + 1 = B := ⟨_, rfl⟩
  rw [hB] at r0 r1 r2 ⊢
  rw [hA] at q0 q1 q2 ⊢
  have HA := Lib.hid (And.intro hA hB)
  clear hx0 hy0 hl0 hz0 hg hb1 hA hB
  go_wp2_with fail
  have kq0 := cell_regrown q0
  have kq1 := cell_regrown q1
  have kq2 := cell_regrown q2
  have kr0 := cell_regrown r0
  have kr1 := cell_regrown r1
  have kr2 := cell_regrown r2
  have c9 : ∀ d os, Calls Tryd.prog 9 #[.agg #[.int .i64 k1, .int .i64 n1, .string t1], .agg #[.int .i64 k2, .int .i64 n2, .string t2]] (Sort.grow (redrawn w1 d) os) fun e w'' => e = .returned (.int .i64 c) ∧ ∃ p : Regrown, w'' = Sort.grow (redrawn w1 p.d) p.os := fun d os => Calls.regrown_of ((HH.out.2.1 _).mono fun _ _ h => ⟨h.1, h.2.below⟩)
  have c10 : ∀ d os, Calls Tryd.prog 10 #[.int .i64 op, .agg #[.int .i64 k1, .int .i64 n1, .string t1], .agg #[.int .i64 k2, .int .i64 n2, .string t2]] (Sort.grow (redrawn w1 d) os) fun e w'' => e = .returned (.bool hb) ∧ ∃ p : Regrown, w'' = Sort.grow (redrawn w1 p.d) p.os := fun d os => Calls.regrown_of ((HH.out.2.2.1 _).mono fun _ _ h => ⟨h.1, h.2.below⟩)
  have c11 : ∀ d os, Calls Tryd.prog 11 #[.int .i64 op, .agg #[.int .i64 k1, .int .i64 n1, .string t1], .agg #[.int .i64 k2, .int .i64 n2, .string t2]] (Sort.grow (redrawn w1 d) os) fun e w'' => e = .returned (.bool hb) ∧ ∃ p : Regrown, w'' = Sort.grow (redrawn w1 p.d) p.os := fun d os => Calls.regrown_of ((HH.out.2.2.2.1 _).mono fun _ _ h => ⟨h.1, h.2.below⟩)
  have c12 : ∀ d os, Calls Tryd.prog 12 #[.agg #[.int .i64 k1, .int .i64 n1, .string t1]] (Sort.grow (redrawn w1 d) os) fun e w'' => e = .returned (.bool r) ∧ ∃ p : Regrown, w'' = Sort.grow (redrawn w1 p.d) p.os := fun d os => Calls.regrown_of ((HH.out.2.2.2.2.1 _).mono fun _ _ h => ⟨h.1, h.2.below⟩)
  have c13 : ∀ d os, Calls Tryd.prog 13 #[.agg #[.int .i64 k1, .int .i64 n1, .string t1]] (Sort.grow (redrawn w1 d) os) fun e w'' => e = .returned (.bool r) ∧ ∃ p : Regrown, w'' = Sort.grow (redrawn w1 p.d) p.os := fun d os => Calls.regrown_of ((HH.out.2.2.2.2.2 _).mono fun _ _ h => ⟨h.1, h.2.below⟩)
  have bc : (c == c) = true := by simp
  have bh : (hb == hb) = true := by simp
  have br : (r == r) = true := by simp
  refine wp_region_quiet_below (by kernel_rfl) (by kernel_rfl) ?_
  repeat (first | go_big_quiet_skip | (go_big_quiet_want; go_big_quiet_op; first | go_big_quiet_on | go_big_quiet_call (first | exact c9 _ _ | exact c10 _ _ | exact c11 _ _ | exact c12 _ _ | exact c13 _ _)) | quiet_step (first | exact c9 _ _ | exact c10 _ _ | exact c11 _ _ | exact c12 _ _ | exact c13 _ _))
  refine wpQuiet_nil ?_
  intro _ hw'
  obtain ⟨⟨dq, osq⟩, hw''⟩ := hw'
  subst hw''
  have hbq := below_regrown w1 dq osq
  replace kq0 := kq0 dq osq
  replace kq1 := kq1 dq osq
  replace kq2 := kq2 dq osq
  clear kr0 kr1 kr2 c9 c10 c11 c12 c13 q0 q1 q2 r0 r1 r2 HH
  generalize Sort.grow (redrawn w1 dq) osq = w2 at hbq kq0 kq1 kq2 ⊢
  have HB2 := Lib.hid (HB1.out.trans (hbq.mono HB1.out.size))
  have HT2 := Lib.hid (HT1.out.below hbq)
  clear hbq
  have kq1' := cell_regrown kq1
  have kq2' := cell_regrown kq2
  have c14 : ∀ d os, Calls Tryd.prog 14 #[.int .i64 n1] (Sort.grow (redrawn w2 d) os) fun e w'' => e = .returned (.agg #[.int .i64 1, .int .i64 n1, .string ⟨#[]⟩]) ∧ ∃ p : Regrown, w'' = Sort.grow (redrawn w2 p.d) p.os := fun d os => Calls.regrown_of (num_any n1 _)
  have c15 : ∀ d os, Calls Tryd.prog 15 #[.string t1] (Sort.grow (redrawn w2 d) os) fun e w'' => e = .returned (.agg #[.int .i64 2, .int .i64 0, .string t1]) ∧ ∃ p : Regrown, w'' = Sort.grow (redrawn w2 p.d) p.os := fun d os => Calls.regrown_of (text_any t1 _ hx)
  have c16 : ∀ d os, Calls Tryd.prog 16 #[] (Sort.grow (redrawn w2 d) os) fun e w'' => e = .returned (.bool true) ∧ ∃ p : Regrown, w'' = Sort.grow (redrawn w2 p.d) p.os := fun d os => Calls.regrown_of (awake_any _ (HT2.out.below (below_regrown w2 d os)))
  have e1 := fun W => eq25_same W 1 n1 ⟨#[]⟩
  have e2 := fun W => eq25_same W 2 0 t1
  go_wp2_with fail
  refine wp_region_quiet_below (by kernel_rfl) (by kernel_rfl) ?_
  repeat (first | go_big_quiet_skip | (go_big_quiet_want; go_big_quiet_op; first | go_big_quiet_on | go_big_quiet_call (first | exact c14 _ _ | exact c15 _ _ | exact c16 _ _)) | quiet_step (first | exact c14 _ _ | exact c15 _ _ | exact c16 _ _))
  refine wpQuiet_nil ?_
  intro _ hw'
  obtain ⟨⟨dq, osq⟩, hw''⟩ := hw'
  subst hw''
  have hbq := below_regrown w2 dq osq
  clear c14 c15 c16 kq1' kq2' kq0 kq1 kq2
  generalize Sort.grow (redrawn w2 dq) osq = w3 at hbq ⊢
  go_wp2_with fail
  go_ret
  exact ⟨rfl, HB2.out.trans (hbq.mono HB2.out.size)⟩
end Go.Proofs.YtadjgjbkjhallaaDoor
