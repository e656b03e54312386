/- Walks of clock's functions with two results. -/
import Derived.Test.YtdkdklaoljmpgaaA
namespace Go.Proofs.Ytdkdklaoljmpgaa
open Go.ChangeShapes Go.WideShapes Go.ChangeAt Go.RowKit

theorem upto_any (t s : Int) (w : World) (h1 : -1 ≤ t) (h2 : t ≤ 1099511627776) (h3 : 1 ≤ s) (h4 : s ≤ 1048576) :
    Calls Try.prog 28 #[.int .i64 t, .int .i64 s] w fun e w' => e = .returned (.int .i64 (upN t s)) ∧ w' = w := by
  by_cases h0 : 0 ≤ t
  · have hx := upN_pos (s := s) h0
    have H := Lib.hid hx
    clear hx
    go_enter Try.func28, Try.ntmps28
    go_wp2
    go_ret
    refine ⟨ret_int ?_, rfl⟩
    rw [H.out]
    go_goals
    done
  · have hx := upN_neg (t := t) (s := s) (by omega)
    have H := Lib.hid hx
    clear hx
    go_enter Try.func28, Try.ntmps28
    go_wp2
    go_ret
    refine ⟨ret_int ?_, rfl⟩
    rw [H.out]
    go_goals
    done

def addV (a b : Int) : Int × Int := if isS a b && isM (a + b) then (a + b, 0) else (0, 6)
theorem addV_ok {a b : Int} (h : isS a b = true) (k : isM (a + b) = true) : addV a b = (a + b, 0) := by simp [addV, h, k]
theorem addV_no1 {a b : Int} (h : isS a b = false) : addV a b = (0, 6) := by simp [addV, h]
theorem addV_no2 {a b : Int} (k : isM (a + b) = false) : addV a b = (0, 6) := by simp [addV, k]

def Two (p : Int × Int) (n : Nat) (w : World) (e : Ending) (w' : World) : Prop := e = .returned (.tuple #[.int .i64 p.1, .int .i64 p.2]) ∧ Below n w w'

theorem two_of {p : Int × Int} {a b : Int} {n : Nat} {w w' : World} (h : p = (a, b)) (hb : Below n w w') : Two p n w (.returned (.tuple #[.int .i64 a, .int .i64 b])) w' := by subst h; exact ⟨rfl, hb⟩

theorem withinS (a b : Int) (p : Nat) (w : World) (hc : w.cell? ⟨p, 0, none⟩ = some (.int .i64 a)) (hd : w.cell? ⟨p, 1, none⟩ = some (.int .i64 b)) :
    Calls Try.prog 26 #[.int .i64 (-1099511627776), .int .i64 1099511627776, .slice (some ⟨p, 0, none⟩) 2 2] w fun e w' => e = .returned (.bool (isS a b)) ∧ w' = w := within2 _ _ a b p w hc hd
theorem withinMM (a b : Int) (p : Nat) (w : World) (hc : w.cell? ⟨p, 0, none⟩ = some (.int .i64 a)) (hd : w.cell? ⟨p, 1, none⟩ = some (.int .i64 b)) :
    Calls Try.prog 26 #[.int .i64 (-1), .int .i64 1099511627776, .slice (some ⟨p, 0, none⟩) 2 2] w fun e w' => e = .returned (.bool (isMM a b)) ∧ w' = w := within2 _ _ a b p w hc hd

theorem add_any (a b : Int) (w : World) :
    Calls Try.prog 7 #[.int .i64 a, .int .i64 b] w (Two (addV a b) w.heap.size w) := by
  cases hs : isS a b with
  | false =>
    have H := Lib.hid (addV_no1 hs)
    go_enter Try.func7, Try.ntmps7
    go_wp2_with (go_at_call 26; refine (withinS a b _ _ (by go_cell) (by go_cell)).mono ?_; rintro e w' ⟨rfl, rfl⟩)
    go_ret2
    exact two_of H.out (by go_grown)
  | true =>
    obtain ⟨h1, h2, h3, h4⟩ := isS_iff.1 hs
    cases hm : isM (a + b) with
    | false =>
      have H := Lib.hid (addV_no2 hm)
      go_enter Try.func7, Try.ntmps7
      go_wp2_with (first | (go_at_call 26; refine (withinS a b _ _ (by go_cell) (by go_cell)).mono ?_; rintro e w' ⟨rfl, rfl⟩) | (go_at_call 18; refine (mark_any _ _).mono ?_; rintro e w' ⟨rfl, hb⟩))
      go_ret2
      exact two_of H.out (Below.trans (by go_grown) (hb.mono (by go_size)))
    | true =>
      have H := Lib.hid (addV_ok hs hm)
      go_enter Try.func7, Try.ntmps7
      go_wp2_with (first | (go_at_call 26; refine (withinS a b _ _ (by go_cell) (by go_cell)).mono ?_; rintro e w' ⟨rfl, rfl⟩) | (go_at_call 18; refine (mark_any _ _).mono ?_; rintro e w' ⟨rfl, hb⟩))
      go_ret2
      exact two_of H.out (Below.trans (by go_grown) (hb.mono (by go_size)))

/-! ### Next -/
def nextV (t s : Int) : Int × Int := if isM t && isW s then (if isT ((upN t s + 1) * s) then ((upN t s + 1) * s, 0) else (0, 6)) else (0, 2)
theorem nextV_no1 {t s : Int} (h : isM t = false) : nextV t s = (0, 2) := by simp [nextV, h]
theorem nextV_no2 {t s : Int} (h : isW s = false) : nextV t s = (0, 2) := by simp [nextV, h]
theorem nextV_no3 {t s : Int} (h : isM t = true) (k : isW s = true) (l : isT ((upN t s + 1) * s) = false) : nextV t s = (0, 6) := by simp [nextV, h, k, l]
theorem nextV_ok {t s : Int} (h : isM t = true) (k : isW s = true) (l : isT ((upN t s + 1) * s) = true) : nextV t s = ((upN t s + 1) * s, 0) := by simp [nextV, h, k, l]

theorem next_any (t s : Int) (w : World) :
    Calls Try.prog 9 #[.int .i64 t, .int .i64 s] w (Two (nextV t s) w.heap.size w) := by
  cases hm : isM t with
  | false =>
    have H := Lib.hid (nextV_no1 (s := s) hm)
    go_enter Try.func9, Try.ntmps9
    go_wp2_with (go_at_call 18; refine (mark_any _ _).mono ?_; rintro e w' ⟨rfl, hb⟩)
    go_ret2
    exact two_of H.out (by go_grown)
  | true =>
    cases hs : isW s with
    | false =>
      have H := Lib.hid (nextV_no2 (t := t) hs)
      go_enter Try.func9, Try.ntmps9
      go_wp2_with (first | (go_at_call 18; refine (mark_any _ _).mono ?_; rintro e w' ⟨rfl, hb⟩) | (go_at_call 27; refine (span_any _ _).mono ?_; rintro e w' ⟨rfl, hb2⟩))
      go_ret2
      exact two_of H.out (hb.trans (hb2.mono hb.size))
    | true =>
      obtain ⟨m1, m2⟩ := isM_iff.1 hm
      obtain ⟨s1, s2⟩ := isW_iff.1 hs
      obtain ⟨u1, u2⟩ := upN_bd t (s := s) m2 s1
      obtain ⟨u3, u4⟩ := upN_mul t (s := s) m2 s1
      have u5 : 0 ≤ (upN t s + 1) * s := by rw [Int.add_mul]; omega
      have u6 : (upN t s + 1) * s ≤ 1099512676352 := by rw [Int.add_mul]; omega
      cases hk : isT ((upN t s + 1) * s) with
      | false =>
        have H := Lib.hid (nextV_no3 hm hs hk)
        go_enter Try.func9, Try.ntmps9
        go_wp2_with (first | (go_at_call 18; refine (mark_any _ _).mono ?_; rintro e w' ⟨rfl, hb⟩) | (go_at_call 27; refine (span_any _ _).mono ?_; rintro e w' ⟨rfl, hb2⟩) | (go_at_call 28; refine (upto_any t s _ m1 m2 s1 s2).mono ?_; rintro e w' ⟨rfl, rfl⟩) | (go_at_call 16; refine (is_any _ _).mono ?_; rintro e w' ⟨rfl, hb3⟩))
        go_ret2
        exact two_of H.out ((hb.trans (hb2.mono hb.size)).trans (hb3.mono (Nat.le_trans hb.size hb2.size)))
      | true =>
        have H := Lib.hid (nextV_ok hm hs hk)
        go_enter Try.func9, Try.ntmps9
        go_wp2_with (first | (go_at_call 18; refine (mark_any _ _).mono ?_; rintro e w' ⟨rfl, hb⟩) | (go_at_call 27; refine (span_any _ _).mono ?_; rintro e w' ⟨rfl, hb2⟩) | (go_at_call 28; refine (upto_any t s _ m1 m2 s1 s2).mono ?_; rintro e w' ⟨rfl, rfl⟩) | (go_at_call 16; refine (is_any _ _).mono ?_; rintro e w' ⟨rfl, hb3⟩))
        go_ret2
        exact two_of H.out ((hb.trans (hb2.mono hb.size)).trans (hb3.mono (Nat.le_trans hb.size hb2.size)))

/-! ### Count -/
def countV (f t s : Int) : Int × Int := if isMM f t && isW s then (max (upN t s - upN f s) 0, 0) else (0, 2)
theorem countV_no1 {f t s : Int} (h : isMM f t = false) : countV f t s = (0, 2) := by simp [countV, h]
theorem countV_no2 {f t s : Int} (h : isW s = false) : countV f t s = (0, 2) := by simp [countV, h]
theorem countV_ok {f t s : Int} (h : isMM f t = true) (k : isW s = true) : countV f t s = (max (upN t s - upN f s) 0, 0) := by simp [countV, h, k]

theorem count_any (f t s : Int) (w : World) :
    Calls Try.prog 11 #[.int .i64 f, .int .i64 t, .int .i64 s] w (Two (countV f t s) w.heap.size w) := by
  cases hm : isMM f t with
  | false =>
    have H := Lib.hid (countV_no1 (s := s) hm)
    go_enter Try.func11, Try.ntmps11
    go_wp2_with (go_at_call 26; refine (withinMM f t _ _ (by go_cell) (by go_cell)).mono ?_; rintro e w' ⟨rfl, rfl⟩)
    go_ret2
    exact two_of H.out (by go_grown)
  | true =>
    cases hs : isW s with
    | false =>
      have H := Lib.hid (countV_no2 (f := f) (t := t) hs)
      go_enter Try.func11, Try.ntmps11
      go_wp2_with (first | (go_at_call 26; refine (withinMM f t _ _ (by go_cell) (by go_cell)).mono ?_; rintro e w' ⟨rfl, rfl⟩) | (go_at_call 27; refine (span_any _ _).mono ?_; rintro e w' ⟨rfl, hb2⟩))
      go_ret2
      exact two_of H.out (Below.trans (by go_grown) (hb2.mono (by go_size)))
    | true =>
      obtain ⟨m1, m2, m3, m4⟩ := isMM_iff.1 hm
      obtain ⟨s1, s2⟩ := isW_iff.1 hs
      obtain ⟨u1, u2⟩ := upN_bd t (s := s) m4 s1
      obtain ⟨u3, u4⟩ := upN_bd f (s := s) m2 s1
      have hc := countV_ok hm hs
      rcases Int.le_total (upN f s) (upN t s) with h0 | h0
      · rw [Int.max_eq_left (by omega)] at hc
        have H := Lib.hid hc
        clear hc
        go_enter Try.func11, Try.ntmps11
        go_wp2_with (first | (go_at_call 26; refine (withinMM f t _ _ (by go_cell) (by go_cell)).mono ?_; rintro e w' ⟨rfl, rfl⟩) | (go_at_call 27; refine (span_any _ _).mono ?_; rintro e w' ⟨rfl, hb2⟩) | (go_at_call 28; (with_reducible refine (upto_any t s _ m3 m4 s1 s2).mono ?_); rintro e w' ⟨rfl, rfl⟩) | (go_at_call 28; (with_reducible refine (upto_any f s _ m1 m2 s1 s2).mono ?_); rintro e w' ⟨rfl, rfl⟩))
        all_goals
          go_ret2
          exact two_of (by rw [H.out] <;> simp <;> omega) (Below.trans (by go_grown) (hb2.mono (by go_size)))
      · rw [Int.max_eq_right (by omega)] at hc
        have H := Lib.hid hc
        clear hc
        go_enter Try.func11, Try.ntmps11
        go_wp2_with (first | (go_at_call 26; refine (withinMM f t _ _ (by go_cell) (by go_cell)).mono ?_; rintro e w' ⟨rfl, rfl⟩) | (go_at_call 27; refine (span_any _ _).mono ?_; rintro e w' ⟨rfl, hb2⟩) | (go_at_call 28; (with_reducible refine (upto_any t s _ m3 m4 s1 s2).mono ?_); rintro e w' ⟨rfl, rfl⟩) | (go_at_call 28; (with_reducible refine (upto_any f s _ m1 m2 s1 s2).mono ?_); rintro e w' ⟨rfl, rfl⟩))
        all_goals
          go_ret2
          exact two_of (by rw [H.out] <;> simp <;> omega) (Below.trans (by go_grown) (hb2.mono (by go_size)))

/-! ### Begin -/
def beginV (c r : Int) : Int × Int := if isT c && isW r then (max (c - r) (-1), 0) else (0, 2)
theorem beginV_no1 {c r : Int} (h : isT c = false) : beginV c r = (0, 2) := by simp [beginV, h]
theorem beginV_no2 {c r : Int} (h : isW r = false) : beginV c r = (0, 2) := by simp [beginV, h]
theorem beginV_ok {c r : Int} (h : isT c = true) (k : isW r = true) : beginV c r = (max (c - r) (-1), 0) := by simp [beginV, h, k]

theorem begin_any (c r : Int) (w : World) :
    Calls Try.prog 13 #[.int .i64 c, .int .i64 r] w (Two (beginV c r) w.heap.size w) := by
  cases hm : isT c with
  | false =>
    have H := Lib.hid (beginV_no1 (r := r) hm)
    go_enter Try.func13, Try.ntmps13
    go_wp2_with (go_at_call 16; refine (is_any _ _).mono ?_; rintro e w' ⟨rfl, hb⟩)
    go_ret2
    exact two_of H.out (by go_grown)
  | true =>
    cases hs : isW r with
    | false =>
      have H := Lib.hid (beginV_no2 (c := c) hs)
      go_enter Try.func13, Try.ntmps13
      go_wp2_with (first | (go_at_call 16; refine (is_any _ _).mono ?_; rintro e w' ⟨rfl, hb⟩) | (go_at_call 27; refine (span_any _ _).mono ?_; rintro e w' ⟨rfl, hb2⟩))
      go_ret2
      exact two_of H.out (hb.trans (hb2.mono hb.size))
    | true =>
      obtain ⟨m1, m2⟩ := isT_iff.1 hm
      obtain ⟨s1, s2⟩ := isW_iff.1 hs
      have hc := beginV_ok hm hs
      by_cases h0 : -1 ≤ c - r
      · rw [Int.max_eq_left h0] at hc
        have H := Lib.hid hc
        clear hc
        go_enter Try.func13, Try.ntmps13
        go_wp2_with (first | (go_at_call 16; refine (is_any _ _).mono ?_; rintro e w' ⟨rfl, hb⟩) | (go_at_call 27; refine (span_any _ _).mono ?_; rintro e w' ⟨rfl, hb2⟩))
        go_ret2
        exact two_of H.out (hb.trans (hb2.mono hb.size))
      · rw [Int.max_eq_right (by omega)] at hc
        have H := Lib.hid hc
        clear hc
        go_enter Try.func13, Try.ntmps13
        go_wp2_with (first | (go_at_call 16; refine (is_any _ _).mono ?_; rintro e w' ⟨rfl, hb⟩) | (go_at_call 27; refine (span_any _ _).mono ?_; rintro e w' ⟨rfl, hb2⟩))
        go_ret2
        exact two_of H.out (hb.trans (hb2.mono hb.size))

/-! ### In -/
def inB (t c r : Int) : Bool := isT c && (isW r && decide (max (c - r) (-1) < t ∧ t ≤ c))
theorem inB_no1 {t c r : Int} (h : isT c = false) : inB t c r = false := by simp [inB, h]
theorem inB_no2 {t c r : Int} (h : isW r = false) : inB t c r = false := by simp [inB, h]
theorem inB_ok {t c r : Int} (h : isT c = true) (k : isW r = true) : inB t c r = decide (max (c - r) (-1) < t ∧ t ≤ c) := by simp [inB, h, k]

theorem begin_no (c r : Int) (w : World) (h : beginV c r = (0, 2)) :
    Calls Try.prog 13 #[.int .i64 c, .int .i64 r] w (fun e w' => e = .returned (.tuple #[.int .i64 0, .int .i64 2]) ∧ Below w.heap.size w w') :=
  (begin_any c r w).mono fun _ _ q => by rw [h] at q; exact q
theorem begin_yes (c r b : Int) (w : World) (h : beginV c r = (b, 0)) :
    Calls Try.prog 13 #[.int .i64 c, .int .i64 r] w (fun e w' => e = .returned (.tuple #[.int .i64 b, .int .i64 0]) ∧ Below w.heap.size w w') :=
  (begin_any c r w).mono fun _ _ q => by rw [h] at q; exact q

theorem beginV_or (c r : Int) : (beginV c r = (0, 2) ∧ (isT c && isW r) = false) ∨ (isT c = true ∧ isW r = true ∧ beginV c r = (max (c - r) (-1), 0)) := by
  cases h : isT c <;> cases k : isW r <;> simp [beginV, h, k]

theorem in_any (t c r : Int) (w : World) :
    Calls Try.prog 20 #[.int .i64 t, .int .i64 c, .int .i64 r] w fun e w' => e = .returned (.bool (inB t c r)) ∧ Below w.heap.size w w' := by
  rcases beginV_or c r with ⟨h, k⟩ | ⟨h, k, l⟩
  · have e : inB t c r = false := by cases h : isT c <;> cases k : isW r <;> simp_all [inB]
    rw [e]
    have H := Lib.hid h
    clear h e k
    go_enter Try.func20, Try.ntmps20
    go_wp2_with (go_at_call 13; refine (begin_no c r _ H.out).mono ?_; rintro e w' ⟨rfl, hb⟩)
    go_ret
    exact ⟨rfl, hb⟩
  · rw [inB_ok h k]
    have H := Lib.hid l
    obtain ⟨b, hb⟩ : ∃ b, max (c - r) (-1) = b := ⟨_, rfl⟩
    rw [hb] at H ⊢
    clear h k l hb
    have hh : b < t ∧ t ≤ c ∨ b < t ∧ c < t ∨ t ≤ b := by omega
    rcases hh with ⟨h1, h2⟩ | ⟨h1, h2⟩ | h1
    · rw [decide_eq_true ⟨h1, h2⟩]
      go_enter Try.func20, Try.ntmps20
      go_wp2_with (go_at_call 13; refine (begin_yes c r b _ H.out).mono ?_; rintro e w' ⟨rfl, hb⟩)
      go_ret
      exact ⟨rfl, hb⟩
    · rw [decide_eq_false (by omega)]
      go_enter Try.func20, Try.ntmps20
      go_wp2_with (go_at_call 13; refine (begin_yes c r b _ H.out).mono ?_; rintro e w' ⟨rfl, hb⟩)
      go_ret
      exact ⟨ret_bool (by simp; omega), hb⟩
    · rw [decide_eq_false (by omega)]
      go_enter Try.func20, Try.ntmps20
      go_wp2_with (go_at_call 13; refine (begin_yes c r b _ H.out).mono ?_; rintro e w' ⟨rfl, hb⟩)
      go_ret
      exact ⟨rfl, hb⟩
end Go.Proofs.Ytdkdklaoljmpgaa
