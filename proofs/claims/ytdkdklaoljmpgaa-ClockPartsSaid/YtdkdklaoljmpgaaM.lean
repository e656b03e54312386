/- ClockParts: the walk. -/
import Derived.Test.YtdkdklaoljmpgaaK
import Derived.Deep.QuietTactic
import Derived.BigQuiet
namespace Go.Proofs.Ytdkdklaoljmpgaa
open Go.ChangeShapes Go.WideShapes Go.ChangeAt Go.RowKit

theorem count_v (a c s x y : Int) (w : World) (h : countV a c s = (x, y)) : Calls Try.prog 11 #[.int .i64 a, .int .i64 c, .int .i64 s] w fun e w' => e = .returned (.tuple #[.int .i64 x, .int .i64 y]) ∧ Below w.heap.size w w' :=
  (count_any a c s w).mono fun _ _ q => by rw [h] at q; exact q
theorem next_v (a s x y : Int) (w : World) (h : nextV a s = (x, y)) : Calls Try.prog 9 #[.int .i64 a, .int .i64 s] w fun e w' => e = .returned (.tuple #[.int .i64 x, .int .i64 y]) ∧ Below w.heap.size w w' :=
  (next_any a s w).mono fun _ _ q => by rw [h] at q; exact q
theorem first_v (f t s m : Int) (l : List Int) (w : World) (hm : m ≤ 1000) (h : firstL f t s m = l) : Calls Try.prog 23 #[.int .i64 f, .int .i64 t, .int .i64 s, .int .i64 m] w (Gives l w) := by
  subst h; exact first_any f t s m w hm

/-- the slice v holds the numbers of a function on 0 to K - 1 -/
def FR (w : World) (v : Value) (f : Nat → Int) (K : Nat) : Prop :=
  ∃ A c, v = .slice A K c ∧ (0 < K → ∃ g, A = some ⟨g, 0, none⟩ ∧ g < w.heap.size ∧ ∀ k, k < K → w.cell? ⟨g, k, none⟩ = some (.int .i64 (f k)))

theorem FR.of_ir {w : World} {v : Value} {l : List Int} {f : Nat → Int} {K : Nat} (h : IR w v l) (hl : l.length = K) (hf : ∀ i (h : i < l.length), l[i] = f i) : FR w v f K := by
  subst hl
  obtain ⟨A, c, rfl, h⟩ := h
  exact ⟨A, c, rfl, fun hn => by obtain ⟨g, e, hg, hc⟩ := h hn; exact ⟨g, e, hg, fun k hk => by rw [hc k hk, hf k hk]⟩⟩

theorem parts_err (a b c s : Int) (n m k e f g : Int) (w : World) (h1 : countV a c s = (n, e)) (h2 : countV a b s = (m, f)) (h3 : countV b c s = (k, g))
    (hh : e = 2 ∨ (e = 0 ∧ f = 2) ∨ (e = 0 ∧ f = 0 ∧ g = 2)) :
    Calls Try.prog 5 #[.int .i64 a, .int .i64 b, .int .i64 c, .int .i64 s] w fun e w' => e = .returned (.bool true) ∧ Below w.heap.size w w' := by
  have H1 := Lib.hid h1
  have H2 := Lib.hid h2
  have H3 := Lib.hid h3
  clear h1 h2 h3
  rcases hh with rfl | ⟨rfl, rfl⟩ | ⟨rfl, rfl, rfl⟩
  all_goals
    go_enter Try.func5, Try.ntmps5
    go_wp2_with fail
    refine (awake_any _).mono ?_
    rintro e w1 ⟨rfl, hb1⟩
    go_wp2_with fail
    refine (count_v _ _ _ _ _ _ H1.out).mono ?_
    rintro e w2 ⟨rfl, hb2⟩
    replace hb2 := hb1.trans (hb2.mono hb1.size)
    go_wp2_with fail
    refine (count_v _ _ _ _ _ _ H2.out).mono ?_
    rintro e w3 ⟨rfl, hb3⟩
    replace hb3 := hb2.trans (hb3.mono hb2.size)
    go_wp2_with fail
    refine (count_v _ _ _ _ _ _ H3.out).mono ?_
    rintro e w4 ⟨rfl, hb4⟩
    replace hb4 := hb3.trans (hb4.mono hb3.size)
    go_wp2_with fail
    go_ret
    exact ⟨rfl, hb4⟩

theorem below_drewN {B : Nat} {a w : World} (h : Below B a w) (n : Nat) : Below B a (w.drewN n) := ⟨h.os, h.tape, h.output, h.size, h.block⟩

set_option maxRecDepth 100000 in
set_option maxHeartbeats 8000000 in
theorem parts_mid1 (a b c s : Int) (n m k x y : Int) (K : Nat) (L : List Int) (w : World) (h1 : countV a c s = (n, 0)) (h2 : countV a b s = (m, 0)) (h3 : countV b c s = (k, 0))
    (hL : firstL a c s 500 = L) (hl : L.length = K) (hf : ∀ i (h : i < L.length), L[i] = clo a s i) (hG : ∀ i, i < K → Good a c s i) (hlast : nextV (las a s K) s = (x, y))
    (n1 : 0 ≤ n) (n2 : n ≤ 1099511627776) (m1 : 0 ≤ m) (m2 : m ≤ 1099511627776) (k1 : 0 ≤ k) (k2 : k ≤ 1099511627776) (s1 : 1 ≤ s) (s2 : s ≤ 1048576)
    (hs : a ≤ b ∧ b ≤ c ∧ n = m + k)
    (hK : (n ≤ 500 ∧ (K : Int) = n ∧ (500 ≤ n ∨ y = 2 ∨ y = 6 ∨ (y = 0 ∧ c < x))) ∨ (500 < n ∧ K = 500)) :
    Calls Try.prog 5 #[.int .i64 a, .int .i64 b, .int .i64 c, .int .i64 s] w fun e w' => e = .returned (.bool true) ∧ Below w.heap.size w w' := by
  have H1 := Lib.hid h1
  have H2 := Lib.hid h2
  have H3 := Lib.hid h3
  have HLL := Lib.hid hL
  have HL := Lib.hid hl
  have HF := Lib.hid hf
  have HG := Lib.hid hG
  have HE := Lib.hid hlast
  clear h1 h2 h3 hL hl hf hG hlast
  obtain ⟨q1, q2, q3⟩ := hs
  have Q3 : (n != m + k) = false := by rw [bne_eq_false_iff_eq]; exact q3
  clear q3
  go_enter Try.func5, Try.ntmps5
  go_wp2_with fail
  refine (awake_any _).mono ?_
  rintro e w1 ⟨rfl, hb1⟩
  go_wp2_with fail
  refine (count_v _ _ _ _ _ _ H1.out).mono ?_
  rintro e w2 ⟨rfl, hb2⟩
  replace hb2 := hb1.trans (hb2.mono hb1.size)
  go_wp2_with fail
  refine (count_v _ _ _ _ _ _ H2.out).mono ?_
  rintro e w3 ⟨rfl, hb3⟩
  replace hb3 := hb2.trans (hb3.mono hb2.size)
  go_wp2_with fail
  refine (count_v _ _ _ _ _ _ H3.out).mono ?_
  rintro e w4 ⟨rfl, hb4⟩
  replace hb4 := hb3.trans (hb4.mono hb3.size)
  clear hb1 hb2 hb3
  go_wp2_with fail
  refine (first_v _ _ _ _ _ _ (by decide) HLL.out).mono ?_
  rintro e w5 ⟨v, rfl, hv, hb5⟩
  replace hb5 := hb4.trans (hb5.mono hb4.size)
  obtain ⟨A, cap, rfl, hA⟩ := FR.of_ir hv HL.out HF.out
  have HA := Lib.hid hA
  clear hA hv hb4
  have hKb : K ≤ 500 := by omega
  have HKK := Lib.hid hK
  have hd : (n ≤ 500 ∧ ((K : Int) != n) = false) ∨ (500 < n ∧ ((K : Int) != 500) = false) := by
    rcases hK with ⟨d1, d2, d3⟩ | ⟨d1, d2⟩
    · exact .inl ⟨d1, by rw [bne_eq_false_iff_eq]; exact d2⟩
    · exact .inr ⟨d1, by rw [bne_eq_false_iff_eq]; omega⟩
  clear hK
  rcases hd with ⟨d1, d2⟩ | ⟨d1, d2⟩
  all_goals
    go_wp2_with fail
    clear d2
    go_loopw [16, 17] (fun la i wr => ∃ j : Nat, j ≤ K ∧ i = .int .i64 j ∧ la = .int .i64 (las a s j) ∧ Below w5.heap.size w5 wr) (fun _ i _ => K - (intOf i).toNat)
    case atStart => exact ⟨0, Nat.zero_le _, rfl, rfl, Below.refl _ _⟩
    case round =>
      obtain ⟨j, hj, rfl, rfl, hr⟩ := hrel
      by_cases hlt : j < K
      · obtain ⟨g1, g2, g3, g4, g5, g6⟩ := HG.out j hlt
        obtain ⟨g, rfl, hg, hc⟩ := HA.out (by omega)
        have hcj := (hr.cell (p := ⟨g, j, none⟩) hg).trans (hc j hlt)
        obtain ⟨z, hz⟩ : ∃ z, las a s j = z := ⟨_, rfl⟩
        obtain ⟨u, hu⟩ : ∃ u, clo a s j = u := ⟨_, rfl⟩
        rw [hu] at g1 g2 g3 g4 g5 g6 hcj
        rw [hz] at g1
        have G1 := Lib.hid g1
        have HZ := Lib.hid hz
        have HU := Lib.hid hu
        have HC := Lib.hid hc
        rw [hz]
        have e1 : (u.tmod s != 0) = false := by rw [bne_eq_false_iff_eq, Int.tmod_eq_emod_of_nonneg g3]; exact g2
        have e2 : (u % s != 0) = false := by rw [bne_eq_false_iff_eq]; exact g2
        have e3 : decide (u ≤ a) = false := by simp; omega
        have e4 : decide (c < u) = false := by simp; omega
        have E1 := Lib.hid e1
        have E2 := Lib.hid e2
        have E3 := Lib.hid e3
        have E4 := Lib.hid e4
        clear g1 g2 hz hu hc e1 e2 e3 e4
        cases j with
        | zero =>
          go_wp2_with (go_at_call 9; refine (next_v _ _ _ _ _ G1.out).mono ?_; rintro e w6 ⟨rfl, hb6⟩)
          have hc6 := (hb6.cell (p := ⟨g, 0, none⟩) (Nat.lt_of_lt_of_le hg hr.size)).trans hcj
          have e1 := E1.out
          have e2 := E2.out
          have e3 := E3.out
          have e4 := E4.out
          have e5 : (0 : Int) < K := by omega
          go_quiet (fail)
          clear e1 e2 e3 e4
          go_wp2_with fail
          go_roundw
          case rel => exact ⟨1, by omega, rfl, by rw [← HU.out]; rfl, hr.trans (below_drewN (hb6.mono hr.size) _)⟩
          case measure => simp [intOf]; omega
        | succ i =>
          obtain ⟨p1, p2, p3, p4, p5, p6⟩ := HG.out i (by omega)
          have q1 : clo a s i = z := HZ.out
          have q2 := clo_step a s i
          rw [HU.out, q1] at q2
          rw [q1] at p3 p4
          have hci := (hr.cell (p := ⟨g, i, none⟩) hg).trans (HC.out i (by omega))
          rw [q1] at hci
          have e6 : (u - z != s) = false := by rw [bne_eq_false_iff_eq]; exact q2
          have E6 := Lib.hid e6
          clear p1 p2 p5 p6 q1 q2 e6
          go_wp2_with (go_at_call 9; refine (next_v _ _ _ _ _ G1.out).mono ?_; rintro e w6 ⟨rfl, hb6⟩)
          have hc6 := (hb6.cell (p := ⟨g, i + 1, none⟩) (Nat.lt_of_lt_of_le hg hr.size)).trans hcj
          have hc7 := (hb6.cell (p := ⟨g, i, none⟩) (Nat.lt_of_lt_of_le hg hr.size)).trans hci
          have e1 := E1.out
          have e2 := E2.out
          have e3 := E3.out
          have e4 := E4.out
          have e6 := E6.out
          have e5 : (i : Int) + 1 < K := by omega
          go_quiet (fail)
          clear e1 e2 e3 e4 e6
          go_wp2_with fail
          go_roundw
          case rel => exact ⟨i + 2, by omega, by go_num, by rw [← HU.out]; rfl, hr.trans (below_drewN (hb6.mono hr.size) _)⟩
          case measure => simp [intOf]; omega
      · have hjK : j = K := by omega
        subst hjK
        rcases HKK.out with ⟨d5, d6, d7 | rfl | rfl | ⟨rfl, d7⟩⟩ | ⟨d5, d6⟩
        all_goals
          first
          | (exfalso; omega)
          | (try clear d6
             go_wp2_with (go_at_call 9; refine (next_v _ _ _ _ _ HE.out).mono ?_; rintro e w6 ⟨rfl, hb6⟩)
             all_goals (go_ret; exact ⟨by first | rfl | exact ret_bool (by simp; omega), hb5.trans ((hr.trans (hb6.mono hr.size)).mono hb5.size)⟩))

end Go.Proofs.Ytdkdklaoljmpgaa
