/- ClockWindows: the walk. -/
import Derived.Test.YtdkdklaoljmpgaaG
namespace Go.Proofs.Ytdkdklaoljmpgaa
open Go.ChangeShapes Go.WideShapes Go.ChangeAt Go.RowKit

theorem in_v (t c r : Int) (v : Bool) (w : World) (h : inB t c r = v) : Calls Try.prog 20 #[.int .i64 t, .int .i64 c, .int .i64 r] w fun e w' => e = .returned (.bool v) ∧ Below w.heap.size w w' := by
  subst h; exact in_any t c r w
theorem is_v (t : Int) (v : Bool) (w : World) (h : isT t = v) : Calls Try.prog 16 #[.int .i64 t] w fun e w' => e = .returned (.bool v) ∧ Below w.heap.size w w' := by
  subst h; exact is_any t w
theorem add_v (a b x y : Int) (w : World) (h : addV a b = (x, y)) : Calls Try.prog 7 #[.int .i64 a, .int .i64 b] w fun e w' => e = .returned (.tuple #[.int .i64 x, .int .i64 y]) ∧ Below w.heap.size w w' :=
  (add_any a b w).mono fun _ _ q => by rw [h] at q; exact q

theorem inB_false {t c r : Int} (h : isT c = false ∨ isW r = false) : inB t c r = false := by
  rcases h with h | h <;> simp [inB, h]

set_option maxRecDepth 100000 in
set_option maxHeartbeats 1000000 in
theorem win_none (t c r : Int) (w : World) (h1 : beginV c r = (0, 2)) (h2 : inB t c r = false) : Calls Try.prog 6 #[.int .i64 t, .int .i64 c, .int .i64 r] w fun e w' => e = .returned (.bool true) ∧ Below w.heap.size w w' := by
  have H1 := Lib.hid h1
  have H2 := Lib.hid h2
  clear h1 h2
  have hb := Below.refl w.heap.size w
  go_enter Try.func6, Try.ntmps6
  go_wp2_with (first | (go_at_call 25; refine (awake_any _).mono ?_; rintro e w' ⟨rfl, hx⟩; replace hb := hb.trans (hx.mono hb.size); clear hx) | (go_at_call 13; refine (begin_no c r _ H1.out).mono ?_; rintro e w' ⟨rfl, hx⟩; replace hb := hb.trans (hx.mono hb.size); clear hx) | (go_at_call 20; refine (in_v t c r false _ H2.out).mono ?_; rintro e w' ⟨rfl, hx⟩; replace hb := hb.trans (hx.mono hb.size); clear hx))
  go_ret
  exact ⟨rfl, hb⟩

set_option maxRecDepth 100000 in
set_option maxHeartbeats 4000000 in
theorem win_no (t c r b : Int) (xt x1 : Bool) (w : World) (hB : beginV c r = (b, 0)) (hT : isT t = xt) (hI : inB t c r = x1) (hIb : inB b c r = false) (hIc : inB c c r = true) (hA : addV c r = (0, 6))
    (hh : (b < t ∧ t ≤ c ∧ xt = true ∧ x1 = true) ∨ (t ≤ b ∧ xt = true ∧ x1 = false) ∨ (b < t ∧ c < t ∧ xt = true ∧ x1 = false) ∨ (xt = false ∧ x1 = false)) :
    Calls Try.prog 6 #[.int .i64 t, .int .i64 c, .int .i64 r] w fun e w' => e = .returned (.bool true) ∧ Below w.heap.size w w' := by
  have HB := Lib.hid hB
  have HT := Lib.hid hT
  have HI := Lib.hid hI
  have HIb := Lib.hid hIb
  have HIc := Lib.hid hIc
  have HA := Lib.hid hA
  clear hB hT hI hIb hIc hA
  have hb := Below.refl w.heap.size w
  rcases hh with ⟨h1, h2, rfl, rfl⟩ | ⟨h1, rfl, rfl⟩ | ⟨h1, h2, rfl, rfl⟩ | ⟨rfl, rfl⟩
  all_goals
    go_enter Try.func6, Try.ntmps6
    go_wp2_with (first | (go_at_call 25; (with_reducible refine (awake_any _).mono ?_); rintro e w' ⟨rfl, hx⟩; replace hb := hb.trans (hx.mono hb.size); clear hx) | (go_at_call 13; (with_reducible refine (begin_yes c r b _ HB.out).mono ?_); rintro e w' ⟨rfl, hx⟩; replace hb := hb.trans (hx.mono hb.size); clear hx) | (go_at_call 16; (with_reducible refine (is_v t _ _ HT.out).mono ?_); rintro e w' ⟨rfl, hx⟩; replace hb := hb.trans (hx.mono hb.size); clear hx) | (go_at_call 20; (with_reducible refine (in_v t c r _ _ HI.out).mono ?_); rintro e w' ⟨rfl, hx⟩; replace hb := hb.trans (hx.mono hb.size); clear hx) | (go_at_call 20; (with_reducible refine (in_v b c r _ _ HIb.out).mono ?_); rintro e w' ⟨rfl, hx⟩; replace hb := hb.trans (hx.mono hb.size); clear hx) | (go_at_call 20; (with_reducible refine (in_v c c r _ _ HIc.out).mono ?_); rintro e w' ⟨rfl, hx⟩; replace hb := hb.trans (hx.mono hb.size); clear hx) | (go_at_call 7; (with_reducible refine (add_v c r _ _ _ HA.out).mono ?_); rintro e w' ⟨rfl, hx⟩; replace hb := hb.trans (hx.mono hb.size); clear hx))
    go_ret
    exact ⟨rfl, hb⟩

set_option maxRecDepth 100000 in
set_option maxHeartbeats 4000000 in
theorem win_yes (t c r b : Int) (xt x1 x2 : Bool) (w : World) (hB : beginV c r = (b, 0)) (hT : isT t = xt) (hI : inB t c r = x1) (hIb : inB b c r = false) (hIc : inB c c r = true) (hA : addV c r = (c + r, 0))
    (hB2 : beginV (c + r) r = (c, 0)) (hI2 : inB t (c + r) r = x2) (l1 : 0 ≤ c) (l2 : c ≤ 1099511627776) (l3 : 1 ≤ r) (l4 : r ≤ 1048576)
    (hh : (b < t ∧ t ≤ c ∧ t ≤ c + r ∧ xt = true ∧ x1 = true ∧ x2 = false) ∨ (t ≤ b ∧ xt = true ∧ x1 = false ∧ x2 = false) ∨ (b < t ∧ c < t ∧ t ≤ c + r ∧ xt = true ∧ x1 = false ∧ x2 = true) ∨ (b < t ∧ c < t ∧ c + r < t ∧ xt = true ∧ x1 = false ∧ x2 = false) ∨ (xt = false ∧ x1 = false ∧ x2 = false)) :
    Calls Try.prog 6 #[.int .i64 t, .int .i64 c, .int .i64 r] w fun e w' => e = .returned (.bool true) ∧ Below w.heap.size w w' := by
  have HB := Lib.hid hB
  have HT := Lib.hid hT
  have HI := Lib.hid hI
  have HIb := Lib.hid hIb
  have HIc := Lib.hid hIc
  have HA := Lib.hid hA
  have HB2 := Lib.hid hB2
  have HI2 := Lib.hid hI2
  clear hB hT hI hIb hIc hA hB2 hI2
  have hb := Below.refl w.heap.size w
  rcases hh with ⟨h1, h2, h3, rfl, rfl, rfl⟩ | ⟨h1, rfl, rfl, rfl⟩ | ⟨h1, h2, h3, rfl, rfl, rfl⟩ | ⟨h1, h2, h3, rfl, rfl, rfl⟩ | ⟨rfl, rfl, rfl⟩
  all_goals
    go_enter Try.func6, Try.ntmps6
    go_wp2_with (first | (go_at_call 25; (with_reducible refine (awake_any _).mono ?_); rintro e w' ⟨rfl, hx⟩; replace hb := hb.trans (hx.mono hb.size); clear hx) | (go_at_call 13; (with_reducible refine (begin_yes c r b _ HB.out).mono ?_); rintro e w' ⟨rfl, hx⟩; replace hb := hb.trans (hx.mono hb.size); clear hx) | (go_at_call 16; (with_reducible refine (is_v t _ _ HT.out).mono ?_); rintro e w' ⟨rfl, hx⟩; replace hb := hb.trans (hx.mono hb.size); clear hx) | (go_at_call 20; (with_reducible refine (in_v t c r _ _ HI.out).mono ?_); rintro e w' ⟨rfl, hx⟩; replace hb := hb.trans (hx.mono hb.size); clear hx) | (go_at_call 20; (with_reducible refine (in_v b c r _ _ HIb.out).mono ?_); rintro e w' ⟨rfl, hx⟩; replace hb := hb.trans (hx.mono hb.size); clear hx) | (go_at_call 20; (with_reducible refine (in_v c c r _ _ HIc.out).mono ?_); rintro e w' ⟨rfl, hx⟩; replace hb := hb.trans (hx.mono hb.size); clear hx) | (go_at_call 7; (with_reducible refine (add_v c r _ _ _ HA.out).mono ?_); rintro e w' ⟨rfl, hx⟩; replace hb := hb.trans (hx.mono hb.size); clear hx) | (go_at_call 13; (with_reducible refine (begin_yes (c + r) r c _ HB2.out).mono ?_); rintro e w' ⟨rfl, hx⟩; replace hb := hb.trans (hx.mono hb.size); clear hx) | (go_at_call 20; (with_reducible refine (in_v t (c + r) r _ _ HI2.out).mono ?_); rintro e w' ⟨rfl, hx⟩; replace hb := hb.trans (hx.mono hb.size); clear hx))
    go_ret
    exact ⟨by first | rfl | exact ret_bool (by simp; omega), hb⟩

theorem inB_iff {t c r : Int} : inB t c r = true ↔ isT c = true ∧ isW r = true ∧ max (c - r) (-1) < t ∧ t ≤ c := by
  simp only [inB, Bool.and_eq_true, decide_eq_true_eq]
theorem inB_not {t c r : Int} (h : ¬ (max (c - r) (-1) < t ∧ t ≤ c)) : inB t c r = false := by
  rw [← Bool.not_eq_true, inB_iff]; rintro ⟨_, _, h3⟩; exact h h3

theorem win_walk (t c r : Int) (w : World) : Calls Try.prog 6 #[.int .i64 t, .int .i64 c, .int .i64 r] w fun e w' => e = .returned (.bool true) ∧ Below w.heap.size w w' := by
  rcases beginV_or c r with ⟨h, k⟩ | ⟨h, k, l⟩
  · refine win_none t c r w h (inB_false ?_)
    cases h1 : isT c <;> cases h2 : isW r <;> simp_all
  · obtain ⟨c1, c2⟩ := isT_iff.1 h
    obtain ⟨r1, r2⟩ := isW_iff.1 k
    have hIb : inB (max (c - r) (-1)) c r = false := inB_not (by omega)
    have hIc : inB c c r = true := inB_iff.2 ⟨h, k, by omega, by omega⟩
    have hS : isS c r = true := isS_iff.2 ⟨by omega, by omega, by omega, by omega⟩
    have hT : (isT t = true ∧ 0 ≤ t ∧ t ≤ 1099511627776) ∨ (isT t = false ∧ (t < 0 ∨ 1099511627776 < t)) := by
      cases h : isT t with
      | true => exact .inl ⟨rfl, isT_iff.1 h⟩
      | false => exact .inr ⟨rfl, isT_no.1 h⟩
    cases hm : isM (c + r) with
    | false =>
      have hA := addV_no2 hm
      rcases hT with ⟨e1, t1, t2⟩ | ⟨e1, e2⟩
      · rcases (show (max (c - r) (-1) < t ∧ t ≤ c) ∨ t ≤ max (c - r) (-1) ∨ (max (c - r) (-1) < t ∧ c < t) by omega) with ⟨q1, q2⟩ | q1 | ⟨q1, q2⟩
        · exact win_no t c r _ _ _ w l e1 (inB_iff.2 ⟨h, k, q1, q2⟩) hIb hIc hA (.inl ⟨q1, q2, rfl, rfl⟩)
        · exact win_no t c r _ _ _ w l e1 (inB_not (by omega)) hIb hIc hA (.inr (.inl ⟨q1, rfl, rfl⟩))
        · exact win_no t c r _ _ _ w l e1 (inB_not (by omega)) hIb hIc hA (.inr (.inr (.inl ⟨q1, q2, rfl, rfl⟩)))
      · exact win_no t c r _ _ _ w l e1 (inB_not (by omega)) hIb hIc hA (.inr (.inr (.inr ⟨rfl, rfl⟩)))
    | true =>
      have hA := addV_ok hS hm
      obtain ⟨n1, n2⟩ := isM_iff.1 hm
      have hn : isT (c + r) = true := isT_iff.2 ⟨by omega, by omega⟩
      have hB2 : beginV (c + r) r = (c, 0) := by rw [beginV_ok hn k]; congr 1; omega
      have e5 : max (c + r - r) (-1) = c := by omega
      rcases hT with ⟨e1, t1, t2⟩ | ⟨e1, e2⟩
      · rcases (show (max (c - r) (-1) < t ∧ t ≤ c) ∨ t ≤ max (c - r) (-1) ∨ (max (c - r) (-1) < t ∧ c < t ∧ t ≤ c + r) ∨ (max (c - r) (-1) < t ∧ c < t ∧ c + r < t) by omega) with ⟨q1, q2⟩ | q1 | ⟨q1, q2, q3⟩ | ⟨q1, q2, q3⟩
        · exact win_yes t c r _ _ _ _ w l e1 (inB_iff.2 ⟨h, k, q1, q2⟩) hIb hIc hA hB2 (inB_not (by omega)) c1 c2 r1 r2 (.inl ⟨q1, q2, by omega, rfl, rfl, rfl⟩)
        · exact win_yes t c r _ _ _ _ w l e1 (inB_not (by omega)) hIb hIc hA hB2 (inB_not (by omega)) c1 c2 r1 r2 (.inr (.inl ⟨q1, rfl, rfl, rfl⟩))
        · exact win_yes t c r _ _ _ _ w l e1 (inB_not (by omega)) hIb hIc hA hB2 (inB_iff.2 ⟨hn, k, by omega, q3⟩) c1 c2 r1 r2 (.inr (.inr (.inl ⟨q1, q2, q3, rfl, rfl, rfl⟩)))
        · exact win_yes t c r _ _ _ _ w l e1 (inB_not (by omega)) hIb hIc hA hB2 (inB_not (by omega)) c1 c2 r1 r2 (.inr (.inr (.inr (.inl ⟨q1, q2, q3, rfl, rfl, rfl⟩))))
      · exact win_yes t c r _ _ _ _ w l e1 (inB_not (by omega)) hIb hIc hA hB2 (inB_not (by omega)) c1 c2 r1 r2 (.inr (.inr (.inr (.inr ⟨rfl, rfl, rfl⟩))))
end Go.Proofs.Ytdkdklaoljmpgaa
