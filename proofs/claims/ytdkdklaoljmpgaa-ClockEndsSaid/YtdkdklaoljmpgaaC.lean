/- Walks of the kit's SameInts and Pick, and of the reference's small functions. -/
import Derived.Test.YtdkdklaoljmpgaaB
import Derived.Laws.OwnMore
import Derived.Deep.QuietTactic
import Derived.BigQuiet
import Derived.RegionTactic
import Derived.LoopTactic
namespace Go.Proofs.Ytdkdklaoljmpgaa
open Go.ChangeShapes Go.WideShapes Go.ChangeAt Go.RowKit

/-- the slice v holds just the numbers of l -/
def IR (w : World) (v : Value) (l : List Int) : Prop :=
  ∃ A c, v = .slice A l.length c ∧ (0 < l.length → ∃ g, A = some ⟨g, 0, none⟩ ∧ g < w.heap.size ∧ ∀ k (h : k < l.length), w.cell? ⟨g, k, none⟩ = some (.int .i64 l[k]))

theorem IR.below {w w' : World} {v : Value} {l : List Int} (h : IR w v l) (hb : Below w.heap.size w w') : IR w' v l := by
  obtain ⟨A, c, rfl, h⟩ := h
  refine ⟨A, c, rfl, fun hn => ?_⟩
  obtain ⟨g, e, hg, hc⟩ := h hn
  exact ⟨g, e, Nat.lt_of_lt_of_le hg hb.size, fun k hk => (hb.cell (p := ⟨g, k, none⟩) hg).trans (hc k hk)⟩

theorem IR.of_own {w : World} {base n : Nat} {v : Value} {l : List Int} (h : w.ownsRow base 3 1 v n (l.map (Value.int .i64))) : IR w v l := by
  have hn : n = l.length := by have := h.1; simp at this; omega
  subst hn
  rcases h.2 with ⟨rfl, hx⟩ | ⟨g, cap, cur, rfl, _, hh, _⟩
  · have : l = [] := by simpa using hx
    subst this
    exact ⟨none, 0, rfl, fun h => absurd h (by simp)⟩
  · refine ⟨_, cap, rfl, fun _ => ⟨g, rfl, (Array.getElem?_eq_some_iff.1 hh).1, fun k hk => ?_⟩⟩
    rw [h.cellAt k (by omega)]
    simp [hk]

theorem same_nil (A B : Option Addr) (c d : Nat) (w : World) :
    Calls Try.prog 22 #[.slice A 0 c, .slice B 0 d] w fun e w' => e = .returned (.bool true) ∧ Below w.heap.size w w' := by
  go_enter Try.func22, Try.ntmps22
  go_wp2
  go_rounds 1
  go_ret
  exact ⟨rfl, by go_grown⟩

theorem same_ne (A B : Option Addr) (m n c d : Nat) (w : World) (h : m ≠ n) :
    Calls Try.prog 22 #[.slice A m c, .slice B n d] w fun e w' => e = .returned (.bool false) ∧ Below w.heap.size w w' := by
  have h1 : ((m : Int) != n) = true := by rw [bne_iff_ne]; omega
  go_enter Try.func22, Try.ntmps22
  go_wp2
  go_ret
  exact ⟨rfl, by go_grown⟩

theorem take_step {l1 l2 : List Int} {k : Nat} (h : l1.take k = l2.take k) (h1 : k < l1.length) (h2 : k < l2.length) (he : l1[k] = l2[k]) : l1.take (k + 1) = l2.take (k + 1) := by
  rw [List.take_succ_eq_append_getElem h1, List.take_succ_eq_append_getElem h2, h, he]

theorem same_cells (g1 g2 c d : Nat) (l1 l2 : List Int) (w : World) (hl : l1.length = l2.length) (hn : l1.length ≤ 1000000) (b1 : g1 < w.heap.size) (b2 : g2 < w.heap.size)
    (h1 : ∀ k (h : k < l1.length), w.cell? ⟨g1, k, none⟩ = some (.int .i64 l1[k])) (h2 : ∀ k (h : k < l2.length), w.cell? ⟨g2, k, none⟩ = some (.int .i64 l2[k])) :
    Calls Try.prog 22 #[.slice (some ⟨g1, 0, none⟩) l1.length c, .slice (some ⟨g2, 0, none⟩) l1.length d] w fun e w' => e = .returned (.bool (decide (l1 = l2))) ∧ Below w.heap.size w w' := by
  have H1 := Lib.hid h1
  have H2 := Lib.hid h2
  have HL := Lib.hid hl
  clear h1 h2 hl
  obtain ⟨n, hN⟩ : ∃ n, l1.length = n := ⟨_, rfl⟩
  have HN := Lib.hid hN
  rw [hN] at hn ⊢
  clear hN
  go_enter Try.func22, Try.ntmps22
  go_wp2
  go_loopw [5] (fun i wr => ∃ k : Nat, k ≤ n ∧ i = .int .i64 k ∧ l1.take k = l2.take k ∧ Below w.heap.size w wr) (fun i _ => n - (intOf i).toNat)
  case atStart => exact ⟨0, Nat.zero_le _, rfl, by simp, Below.refl _ _⟩
  case round =>
    obtain ⟨k, hk, rfl, ht, hb⟩ := hrel
    have HT := Lib.hid ht
    clear ht
    by_cases hlt : k < n
    · have e1 : k < l1.length := by have := HN.out; omega
      have e2 : k < l2.length := by have := HN.out; have := HL.out; omega
      have g1c := (hb.cell (p := ⟨g1, k, none⟩) b1).trans (H1.out k e1)
      have g2c := (hb.cell (p := ⟨g2, k, none⟩) b2).trans (H2.out k e2)
      obtain ⟨x, hx⟩ : ∃ x, l1[k] = x := ⟨_, rfl⟩
      obtain ⟨y, hy⟩ : ∃ y, l2[k] = y := ⟨_, rfl⟩
      rw [hx] at g1c
      rw [hy] at g2c
      have HX := Lib.hid hx
      have HY := Lib.hid hy
      clear hx hy
      by_cases hxy : x = y
      · subst hxy
        go_wp2
        go_region
        go_wp2
        go_roundw
        case rel => exact ⟨k + 1, by omega, by go_num, take_step HT.out e1 e2 (HX.out.trans HY.out.symm), hb.trans (by go_grown)⟩
        case measure => simp [intOf]; omega
      · have hb1 : (x != y) = true := by simpa using hxy
        have H3 := Lib.hid hxy
        clear hxy
        go_wp2
        go_region
        go_wp2
        go_ret
        exact ⟨ret_bool (by symm; rw [decide_eq_false_iff_not]; rintro rfl; exact H3.out (HX.out.symm.trans HY.out)), hb.trans (by go_grown)⟩
    · have : k = n := by omega
      subst this
      go_wp2
      go_ret
      exact ⟨ret_bool (by symm; rw [decide_eq_true_iff]; have h1 := HT.out; rw [List.take_of_length_le (by have := HN.out; omega), List.take_of_length_le (by have := HN.out; have := HL.out; omega)] at h1; exact h1), hb⟩

theorem same_any (v1 v2 : Value) (l1 l2 : List Int) (w : World) (h1 : IR w v1 l1) (h2 : IR w v2 l2) (hn : l1.length ≤ 1000000) :
    Calls Try.prog 22 #[v1, v2] w fun e w' => e = .returned (.bool (decide (l1 = l2))) ∧ Below w.heap.size w w' := by
  obtain ⟨A, c, rfl, h1⟩ := h1
  obtain ⟨B, d, rfl, h2⟩ := h2
  by_cases hl : l1.length = l2.length
  · rcases Nat.eq_zero_or_pos l1.length with h0 | h0
    · have e1 : l1 = [] := List.eq_nil_of_length_eq_zero h0
      have e2 : l2 = [] := List.eq_nil_of_length_eq_zero (by omega)
      subst e1 e2
      exact same_nil A B c d w
    · obtain ⟨g1, rfl, b1, c1⟩ := h1 h0
      obtain ⟨g2, rfl, b2, c2⟩ := h2 (by omega)
      rw [← hl]
      exact same_cells g1 g2 c d l1 l2 w hl hn b1 b2 c1 c2
  · rw [decide_eq_false (fun h => hl (by rw [h]))]
    exact same_ne A B _ _ c d w hl

/-! ### the reference's small functions: nothing in memory turns -/

theorem wi_yes {lo hi x : Int} (h1 : lo ≤ x) (h2 : x ≤ hi) : wi lo hi x = true := by simp [wi, h1, h2]
theorem wi_lo {lo hi x : Int} (h1 : x < lo) : wi lo hi x = false := by simp [wi]; omega
theorem wi_hi {lo hi x : Int} (h1 : hi < x) : wi lo hi x = false := by simp [wi]; omega

theorem rIs_any (t : Int) (w : World) : Calls Try.prog 17 #[.int .i64 t] w fun e w' => e = .returned (.bool (isT t)) ∧ w' = w := by
  have h : t < 0 ∨ (0 ≤ t ∧ t ≤ 1099511627776) ∨ (0 ≤ t ∧ 1099511627776 < t) := by omega
  rcases h with h | ⟨h1, h2⟩ | ⟨h1, h2⟩
  all_goals
    go_enter Try.func17, Try.ntmps17
    go_wp2
    go_ret
    exact ⟨ret_bool (by symm; first | exact wi_lo (by omega) | (refine (wi_hi (by omega)).trans ?_; simp <;> omega) | (refine (wi_yes (by omega) (by omega)).trans ?_; simp <;> omega)), rfl⟩

theorem rWin_any (t : Int) (w : World) : Calls Try.prog 29 #[.int .i64 t] w fun e w' => e = .returned (.bool (isW t)) ∧ w' = w := by
  have h : t < 1 ∨ (1 ≤ t ∧ t ≤ 1048576) ∨ (1 ≤ t ∧ 1048576 < t) := by omega
  rcases h with h | ⟨h1, h2⟩ | ⟨h1, h2⟩
  all_goals
    go_enter Try.func29, Try.ntmps29
    go_wp2
    go_ret
    exact ⟨ret_bool (by symm; first | exact wi_lo (by omega) | (refine (wi_hi (by omega)).trans ?_; simp <;> omega) | (refine (wi_yes (by omega) (by omega)).trans ?_; simp <;> omega)), rfl⟩

theorem rMark_any (t : Int) (w : World) : Calls Try.prog 19 #[.int .i64 t] w fun e w' => e = .returned (.bool (isM t)) ∧ w' = w := by
  by_cases h : t = -1
  · have hb : (t == -1) = true := by simpa using h
    have e : isM t = true := wi_yes (by omega) (by omega)
    rw [e]
    clear h e
    go_enter Try.func19, Try.ntmps19
    go_wp2
    go_ret
    exact ⟨rfl, rfl⟩
  · have hb : (t == -1) = false := by simpa using h
    have e : isM t = isT t := by
      by_cases h2 : isT t = true
      · rw [h2]; have := isT_iff.1 h2; exact wi_yes (by omega) (by omega)
      · rw [Bool.not_eq_true] at h2
        rw [h2]
        rcases isT_no.1 h2 with h3 | h3
        · exact wi_lo (by omega)
        · exact wi_hi (by omega)
    rw [e]
    clear h e
    go_enter Try.func19, Try.ntmps19
    go_wp2_with (go_at_call 17; refine (rIs_any _ _).mono ?_; rintro e w' ⟨rfl, rfl⟩)
    go_ret
    exact ⟨rfl, rfl⟩

theorem rDown_any (t s : Int) (w : World) (h1 : -1 ≤ t) (h2 : t ≤ 1099511627776) (h3 : 1 ≤ s) (h4 : s ≤ 1048576) :
    Calls Try.prog 30 #[.int .i64 t, .int .i64 s] w fun e w' => e = .returned (.int .i64 (upN t s)) ∧ w' = w := by
  by_cases h0 : 0 ≤ t
  · have H := Lib.hid (upN_pos (s := s) h0)
    go_enter Try.func30, Try.ntmps30
    go_wp2
    go_ret
    refine ⟨ret_int ?_, rfl⟩
    rw [H.out]
  · have H := Lib.hid (upN_neg (t := t) (s := s) (by omega))
    go_enter Try.func30, Try.ntmps30
    go_wp2
    go_ret
    refine ⟨ret_int ?_, rfl⟩
    rw [H.out]

def Twr (p : Int × Int) (w : World) (e : Ending) (w' : World) : Prop := e = .returned (.tuple #[.int .i64 p.1, .int .i64 p.2]) ∧ w' = w
theorem twr_of {p : Int × Int} {a b : Int} {w : World} (h : p = (a, b)) : Twr p w (.returned (.tuple #[.int .i64 a, .int .i64 b])) w := by subst h; exact ⟨rfl, rfl⟩

theorem rAdd_any (a b : Int) (w : World) : Calls Try.prog 8 #[.int .i64 a, .int .i64 b] w (Twr (addV a b) w) := by
  cases hs : isS a b with
  | false =>
    have H := Lib.hid (addV_no1 hs)
    have hh : a < -1099511627776 ∨ (-1099511627776 ≤ a ∧ 1099511627776 < a) ∨ (-1099511627776 ≤ a ∧ a ≤ 1099511627776 ∧ b < -1099511627776) ∨ (-1099511627776 ≤ a ∧ a ≤ 1099511627776 ∧ -1099511627776 ≤ b ∧ 1099511627776 < b) := by
      have : ¬ isS a b = true := by rw [hs]; simp
      rw [isS_iff] at this
      omega
    clear hs
    rcases hh with h1 | ⟨h1, h2⟩ | ⟨h1, h2, h3⟩ | ⟨h1, h2, h3, h4⟩
    all_goals
      go_enter Try.func8, Try.ntmps8
      go_wp2
      go_ret2
      exact twr_of H.out
  | true =>
    obtain ⟨h1, h2, h3, h4⟩ := isS_iff.1 hs
    cases hm : isM (a + b) with
    | false =>
      have H := Lib.hid (addV_no2 hm)
      clear hs
      go_enter Try.func8, Try.ntmps8
      go_wp2_with (go_at_call 19; refine (rMark_any _ _).mono ?_; rintro e w' ⟨rfl, rfl⟩)
      go_ret2
      exact twr_of H.out
    | true =>
      have H := Lib.hid (addV_ok hs hm)
      clear hs
      go_enter Try.func8, Try.ntmps8
      go_wp2_with (go_at_call 19; refine (rMark_any _ _).mono ?_; rintro e w' ⟨rfl, rfl⟩)
      go_ret2
      exact twr_of H.out

theorem rNext_any (t s : Int) (w : World) : Calls Try.prog 10 #[.int .i64 t, .int .i64 s] w (Twr (nextV t s) w) := by
  cases hm : isM t with
  | false =>
    have H := Lib.hid (nextV_no1 (s := s) hm)
    go_enter Try.func10, Try.ntmps10
    go_wp2_with (go_at_call 19; refine (rMark_any _ _).mono ?_; rintro e w' ⟨rfl, rfl⟩)
    go_ret2
    exact twr_of H.out
  | true =>
    cases hs : isW s with
    | false =>
      have H := Lib.hid (nextV_no2 (t := t) hs)
      go_enter Try.func10, Try.ntmps10
      go_wp2_with (first | (go_at_call 19; refine (rMark_any _ _).mono ?_; rintro e w' ⟨rfl, rfl⟩) | (go_at_call 29; refine (rWin_any _ _).mono ?_; rintro e w' ⟨rfl, rfl⟩))
      go_ret2
      exact twr_of H.out
    | true =>
      obtain ⟨m1, m2⟩ := isM_iff.1 hm
      obtain ⟨s1, s2⟩ := isW_iff.1 hs
      obtain ⟨u1, u2⟩ := upN_bd t (s := s) m2 s1
      obtain ⟨u3, u4⟩ := upN_mul t (s := s) m2 s1
      have u5 : 0 ≤ (upN t s + 1) * s := by rw [Int.add_mul]; omega
      have u6 : (upN t s + 1) * s ≤ 1099512676352 := by rw [Int.add_mul]; omega
      by_cases hk : (upN t s + 1) * s ≤ 1099511627776
      · have H := Lib.hid (nextV_ok hm hs (wi_yes u5 hk))
        go_enter Try.func10, Try.ntmps10
        go_wp2_with (first | (go_at_call 19; refine (rMark_any _ _).mono ?_; rintro e w' ⟨rfl, rfl⟩) | (go_at_call 29; refine (rWin_any _ _).mono ?_; rintro e w' ⟨rfl, rfl⟩) | (go_at_call 30; refine (rDown_any t s _ m1 m2 s1 s2).mono ?_; rintro e w' ⟨rfl, rfl⟩))
        go_ret2
        exact twr_of H.out
      · have hk2 : 1099511627776 < (upN t s + 1) * s := by omega
        have H := Lib.hid (nextV_no3 hm hs (wi_hi hk2))
        clear hk
        go_enter Try.func10, Try.ntmps10
        go_wp2_with (first | (go_at_call 19; refine (rMark_any _ _).mono ?_; rintro e w' ⟨rfl, rfl⟩) | (go_at_call 29; refine (rWin_any _ _).mono ?_; rintro e w' ⟨rfl, rfl⟩) | (go_at_call 30; refine (rDown_any t s _ m1 m2 s1 s2).mono ?_; rintro e w' ⟨rfl, rfl⟩))
        go_ret2
        exact twr_of H.out

theorem isMM_and (f t : Int) : isMM f t = (isM f && isM t) := by
  rw [Bool.eq_iff_iff, Bool.and_eq_true, isMM_iff, isM_iff, isM_iff]; omega

theorem rCount_any (f t s : Int) (w : World) : Calls Try.prog 12 #[.int .i64 f, .int .i64 t, .int .i64 s] w (Twr (countV f t s) w) := by
  cases hf : isM f with
  | false =>
    have H := Lib.hid (countV_no1 (f := f) (t := t) (s := s) (by rw [isMM_and, hf]; rfl))
    go_enter Try.func12, Try.ntmps12
    go_wp2_with (go_at_call 19; refine (rMark_any _ _).mono ?_; rintro e w' ⟨rfl, rfl⟩)
    go_ret2
    exact twr_of H.out
  | true =>
    cases hm : isM t with
    | false =>
      have H := Lib.hid (countV_no1 (f := f) (t := t) (s := s) (by rw [isMM_and, hm]; simp))
      go_enter Try.func12, Try.ntmps12
      go_wp2_with (go_at_call 19; refine (rMark_any _ _).mono ?_; rintro e w' ⟨rfl, rfl⟩)
      go_ret2
      exact twr_of H.out
    | true =>
      cases hs : isW s with
      | false =>
        have H := Lib.hid (countV_no2 (f := f) (t := t) hs)
        go_enter Try.func12, Try.ntmps12
        go_wp2_with (first | (go_at_call 19; refine (rMark_any _ _).mono ?_; rintro e w' ⟨rfl, rfl⟩) | (go_at_call 29; refine (rWin_any _ _).mono ?_; rintro e w' ⟨rfl, rfl⟩))
        go_ret2
        exact twr_of H.out
      | true =>
        obtain ⟨m1, m2⟩ := isM_iff.1 hf
        obtain ⟨m3, m4⟩ := isM_iff.1 hm
        obtain ⟨s1, s2⟩ := isW_iff.1 hs
        obtain ⟨u1, u2⟩ := upN_bd t (s := s) m4 s1
        obtain ⟨u3, u4⟩ := upN_bd f (s := s) m2 s1
        have hc := countV_ok (f := f) (t := t) (s := s) (by rw [isMM_and, hf, hm]; rfl) hs
        rcases Int.le_total (upN f s) (upN t s) with h0 | h0
        · rw [Int.max_eq_left (by omega)] at hc
          have H := Lib.hid hc
          clear hc
          go_enter Try.func12, Try.ntmps12
          go_wp2_with (first | (go_at_call 19; refine (rMark_any _ _).mono ?_; rintro e w' ⟨rfl, rfl⟩) | (go_at_call 29; refine (rWin_any _ _).mono ?_; rintro e w' ⟨rfl, rfl⟩) | (go_at_call 30; (with_reducible refine (rDown_any t s _ m3 m4 s1 s2).mono ?_); rintro e w' ⟨rfl, rfl⟩) | (go_at_call 30; (with_reducible refine (rDown_any f s _ m1 m2 s1 s2).mono ?_); rintro e w' ⟨rfl, rfl⟩))
          all_goals
            go_ret2
            exact twr_of (by rw [H.out] <;> simp <;> omega)
        · rw [Int.max_eq_right (by omega)] at hc
          have H := Lib.hid hc
          clear hc
          go_enter Try.func12, Try.ntmps12
          go_wp2_with (first | (go_at_call 19; refine (rMark_any _ _).mono ?_; rintro e w' ⟨rfl, rfl⟩) | (go_at_call 29; refine (rWin_any _ _).mono ?_; rintro e w' ⟨rfl, rfl⟩) | (go_at_call 30; (with_reducible refine (rDown_any t s _ m3 m4 s1 s2).mono ?_); rintro e w' ⟨rfl, rfl⟩) | (go_at_call 30; (with_reducible refine (rDown_any f s _ m1 m2 s1 s2).mono ?_); rintro e w' ⟨rfl, rfl⟩))
          all_goals
            go_ret2
            exact twr_of (by rw [H.out] <;> simp <;> omega)

theorem rBegin_any (c r : Int) (w : World) : Calls Try.prog 14 #[.int .i64 c, .int .i64 r] w (Twr (beginV c r) w) := by
  cases hm : isT c with
  | false =>
    have H := Lib.hid (beginV_no1 (r := r) hm)
    go_enter Try.func14, Try.ntmps14
    go_wp2_with (go_at_call 17; refine (rIs_any _ _).mono ?_; rintro e w' ⟨rfl, rfl⟩)
    go_ret2
    exact twr_of H.out
  | true =>
    cases hs : isW r with
    | false =>
      have H := Lib.hid (beginV_no2 (c := c) hs)
      go_enter Try.func14, Try.ntmps14
      go_wp2_with (first | (go_at_call 17; refine (rIs_any _ _).mono ?_; rintro e w' ⟨rfl, rfl⟩) | (go_at_call 29; refine (rWin_any _ _).mono ?_; rintro e w' ⟨rfl, rfl⟩))
      go_ret2
      exact twr_of H.out
    | true =>
      obtain ⟨m1, m2⟩ := isT_iff.1 hm
      obtain ⟨s1, s2⟩ := isW_iff.1 hs
      have hc := beginV_ok hm hs
      by_cases h0 : -1 ≤ c - r
      · rw [Int.max_eq_left h0] at hc
        have H := Lib.hid hc
        clear hc
        go_enter Try.func14, Try.ntmps14
        go_wp2_with (first | (go_at_call 17; refine (rIs_any _ _).mono ?_; rintro e w' ⟨rfl, rfl⟩) | (go_at_call 29; refine (rWin_any _ _).mono ?_; rintro e w' ⟨rfl, rfl⟩))
        go_ret2
        exact twr_of H.out
      · rw [Int.max_eq_right (by omega)] at hc
        have H := Lib.hid hc
        clear hc
        go_enter Try.func14, Try.ntmps14
        go_wp2_with (first | (go_at_call 17; refine (rIs_any _ _).mono ?_; rintro e w' ⟨rfl, rfl⟩) | (go_at_call 29; refine (rWin_any _ _).mono ?_; rintro e w' ⟨rfl, rfl⟩))
        go_ret2
        exact twr_of H.out

theorem inB_eq (t c r : Int) : inB t c r = (isT t && (isT c && (isW r && (decide (c - r < t) && decide (t ≤ c))))) := by
  rw [Bool.eq_iff_iff]
  simp only [inB, Bool.and_eq_true, isT_iff, isW_iff, decide_eq_true_eq]
  omega

theorem rIn_any (t c r : Int) (w : World) : Calls Try.prog 21 #[.int .i64 t, .int .i64 c, .int .i64 r] w fun e w' => e = .returned (.bool (inB t c r)) ∧ w' = w := by
  rw [inB_eq]
  cases ht : isT t with
  | false =>
    rw [Bool.false_and]
    go_enter Try.func21, Try.ntmps21
    go_wp2_with (go_at_call 17; refine (rIs_any _ _).mono ?_; rintro e w' ⟨rfl, rfl⟩)
    go_ret
    exact ⟨rfl, rfl⟩
  | true =>
    cases hc : isT c with
    | false =>
      rw [Bool.false_and, Bool.and_false]
      go_enter Try.func21, Try.ntmps21
      go_wp2_with (go_at_call 17; refine (rIs_any _ _).mono ?_; rintro e w' ⟨rfl, rfl⟩)
      go_ret
      exact ⟨rfl, rfl⟩
    | true =>
      cases hr : isW r with
      | false =>
        rw [Bool.false_and, Bool.and_false, Bool.and_false]
        go_enter Try.func21, Try.ntmps21
        go_wp2_with (first | (go_at_call 17; refine (rIs_any _ _).mono ?_; rintro e w' ⟨rfl, rfl⟩) | (go_at_call 29; refine (rWin_any _ _).mono ?_; rintro e w' ⟨rfl, rfl⟩))
        go_ret
        exact ⟨rfl, rfl⟩
      | true =>
        obtain ⟨t1, t2⟩ := isT_iff.1 ht
        obtain ⟨c1, c2⟩ := isT_iff.1 hc
        obtain ⟨r1, r2⟩ := isW_iff.1 hr
        rw [Bool.true_and, Bool.true_and, Bool.true_and]
        by_cases h1 : c - r < t
        · go_enter Try.func21, Try.ntmps21
          go_wp2_with (first | (go_at_call 17; refine (rIs_any _ _).mono ?_; rintro e w' ⟨rfl, rfl⟩) | (go_at_call 29; refine (rWin_any _ _).mono ?_; rintro e w' ⟨rfl, rfl⟩))
          go_ret
          exact ⟨ret_bool (by simp [h1]), rfl⟩
        · have h2 : t ≤ c - r := by omega
          clear h1
          go_enter Try.func21, Try.ntmps21
          go_wp2_with (first | (go_at_call 17; refine (rIs_any _ _).mono ?_; rintro e w' ⟨rfl, rfl⟩) | (go_at_call 29; refine (rWin_any _ _).mono ?_; rintro e w' ⟨rfl, rfl⟩))
          go_ret
          exact ⟨ret_bool (by symm; rw [decide_eq_false (show ¬ c - r < t by omega)]; rfl), rfl⟩

theorem tmod_or (x n : Int) (h : x < 0) (hn : 1 ≤ n) : (x.tmod n = 0 ∧ x % n = 0) ∨ (x.tmod n < 0 ∧ -n < x.tmod n ∧ x % n = x.tmod n + n) := by
  have e := Int.tmod_eq_emod (a := x) (b := n)
  have b1 := Int.emod_nonneg x (show n ≠ 0 by omega)
  have b2 := Int.emod_lt_of_pos x (show 0 < n by omega)
  by_cases hd : n ∣ x
  · rw [if_pos (.inr hd)] at e
    have := Int.emod_eq_zero_of_dvd hd
    omega
  · rw [if_neg (by rintro (h1 | h1); omega; exact hd h1)] at e
    have hne : x % n ≠ 0 := fun h0 => hd (Int.dvd_of_emod_eq_zero h0)
    have hab : (n.natAbs : Int) = n := by omega
    rw [hab] at e
    omega

/-- what Pick makes of a number -/
theorem pick_any (x n : Int) (w : World) (n1 : 1 ≤ n) (n2 : n ≤ 1099511627776) :
    Calls Try.prog 15 #[.int .i64 x, .int .i64 n] w fun e w' => e = .returned (.int .i64 (x % n)) ∧ w' = w := by
  by_cases h0 : 0 ≤ x
  · have b1 := Int.emod_nonneg x (show n ≠ 0 by omega)
    have b2 := Int.emod_lt_of_pos x (show 0 < n by omega)
    go_enter Try.func15, Try.ntmps15
    go_wp2
    go_ret
    exact ⟨rfl, rfl⟩
  · rcases tmod_or x n (by omega) n1 with ⟨h1, h2⟩ | ⟨h1, h2, h3⟩
    · have H1 := Lib.hid h1
      have H2 := Lib.hid h2
      have h3 : 0 ≤ x.tmod n := by omega
      have h4 : x.tmod n ≤ 0 := by omega
      clear h1 h2
      go_enter Try.func15, Try.ntmps15
      go_wp2
      go_ret
      exact ⟨ret_int (by rw [H1.out, H2.out]), rfl⟩
    · have H3 := Lib.hid h3
      clear h3
      go_enter Try.func15, Try.ntmps15
      go_wp2
      go_ret
      exact ⟨ret_int (by rw [H3.out]), rfl⟩
end Go.Proofs.Ytdkdklaoljmpgaa
