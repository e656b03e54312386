/- ClockParts: the numbers. -/
import Derived.Test.YtdkdklaoljmpgaaG
namespace Go.Proofs.Ytdkdklaoljmpgaa
open Go.ChangeShapes Go.WideShapes Go.ChangeAt Go.RowKit

/-- the close number k above a -/
def clo (a s : Int) (k : Nat) : Int := (upN a s + 1) * s + (k : Int) * s
/-- the watermark ahead of it -/
def las (a s : Int) : Nat → Int
  | 0 => a
  | k + 1 => clo a s k

theorem clo_eq (a s : Int) (k : Nat) : clo a s k = (upN a s + 1 + (k : Int)) * s := by unfold clo; rw [← Int.add_mul]

/-- what one round of the law asks -/
structure Good (a c s : Int) (k : Nat) : Prop where
  next : nextV (las a s k) s = (clo a s k, 0)
  mod : clo a s k % s = 0
  pos : 0 ≤ clo a s k
  top : clo a s k ≤ 1099511627776
  above : a < clo a s k
  atMost : clo a s k ≤ c

theorem upN_clo (a s : Int) (k : Nat) (h : 0 ≤ clo a s k) (hs : 1 ≤ s) : upN (clo a s k) s = upN a s + 1 + k := by
  rw [upN_pos h, clo_eq, Int.mul_ediv_cancel _ (by omega)]

theorem upN_lt (a s : Int) (h2 : a ≤ 1099511627776) (hs : 1 ≤ s) : a < (upN a s + 1) * s := by
  rcases Int.lt_or_le a 0 with h | h
  · rw [upN_neg h]; omega
  · rw [upN_pos h]
    have := Int.lt_ediv_add_one_mul_self a (show 0 < s by omega)
    exact this

theorem good_of (a c s : Int) (k : Nat) (a1 : -1 ≤ a) (a2 : a ≤ 1099511627776) (c2 : c ≤ 1099511627776) (s1 : 1 ≤ s) (s2 : s ≤ 1048576) (hk : (k : Int) < upN c s - upN a s) : Good a c s k := by
  obtain ⟨u1, u2⟩ := upN_bd a (s := s) a2 s1
  have hs : isW s = true := isW_iff.2 ⟨s1, s2⟩
  have hcl := clo_eq a s k
  have e1 : clo a s k ≤ upN c s * s := by rw [hcl]; exact Int.mul_le_mul_of_nonneg_right (by omega) (by omega)
  have e2 : 0 ≤ clo a s k := by rw [hcl]; exact Int.mul_nonneg (by omega) (by omega)
  have e3 : upN c s * s ≤ c := by
    have : 0 ≤ c := by
      rcases Int.lt_or_le c 0 with h | h
      · rw [upN_neg h] at hk; omega
      · exact h
    rw [upN_pos this]
    exact Int.ediv_mul_le _ (by omega)
  have e4 : (upN a s + 1) * s ≤ clo a s k := by rw [hcl]; exact Int.mul_le_mul_of_nonneg_right (by omega) (by omega)
  have e5 := upN_lt a s a2 s1
  refine ⟨?_, by rw [hcl]; exact Int.mul_emod_left _ _, e2, by omega, by omega, by omega⟩
  cases k with
  | zero =>
    have hm : isM a = true := isM_iff.2 ⟨a1, a2⟩
    have e6 : clo a s 0 = (upN a s + 1) * s := by rw [hcl]; congr 1; omega
    show nextV a s = _
    rw [e6] at e2 e1 ⊢
    exact nextV_ok hm hs (isT_iff.2 ⟨e2, by omega⟩)
  | succ k =>
    show nextV (clo a s k) s = _
    have f0 := clo_eq a s k
    have f1 : 0 ≤ clo a s k := by rw [f0]; exact Int.mul_nonneg (by omega) (by omega)
    have f2 : clo a s k ≤ clo a s (k + 1) := by rw [f0, hcl]; exact Int.mul_le_mul_of_nonneg_right (by omega) (by omega)
    have hm : isM (clo a s k) = true := isM_iff.2 ⟨by omega, by omega⟩
    have e6 : (upN (clo a s k) s + 1) * s = clo a s (k + 1) := by rw [upN_clo a s k f1 s1, hcl]; congr 1; omega
    rw [← e6] at e2 e1 ⊢
    exact nextV_ok hm hs (isT_iff.2 ⟨e2, by omega⟩)

theorem clo_step (a s : Int) (k : Nat) : clo a s (k + 1) - clo a s k = s := by
  rw [clo_eq, clo_eq, ← Int.sub_mul]
  rw [show upN a s + 1 + ((k + 1 : Nat) : Int) - (upN a s + 1 + (k : Int)) = 1 by omega, Int.one_mul]

/-- behind the last one: an error, or a close above c -/
theorem last_of (a c s : Int) (N : Nat) (a2 : a ≤ 1099511627776) (c2 : c ≤ 1099511627776) (s1 : 1 ≤ s) (s2 : s ≤ 1048576) (hN : (N : Int) = max (upN c s - upN a s) 0) :
    (nextV (las a s N) s).2 = 2 ∨ (nextV (las a s N) s).2 = 6 ∨ ((nextV (las a s N) s).2 = 0 ∧ c < (nextV (las a s N) s).1) := by
  obtain ⟨u1, u2⟩ := upN_bd a (s := s) a2 s1
  obtain ⟨u3, u4⟩ := upN_bd c (s := s) c2 s1
  have e5 := upN_lt c s c2 s1
  unfold nextV
  by_cases h1 : isM (las a s N) && isW s
  · rw [if_pos h1]
    by_cases h2 : isT ((upN (las a s N) s + 1) * s) = true
    · rw [if_pos h2]
      refine .inr (.inr ⟨rfl, ?_⟩)
      have : upN c s ≤ upN (las a s N) s := by
        cases N with
        | zero => show upN c s ≤ upN a s; omega
        | succ k =>
          show upN c s ≤ upN (clo a s k) s
          rw [upN_clo a s k (by rw [clo_eq]; exact Int.mul_nonneg (by omega) (by omega)) s1]
          omega
      have h3 : (upN c s + 1) * s ≤ (upN (las a s N) s + 1) * s := Int.mul_le_mul_of_nonneg_right (by omega) (by omega)
      show c < (upN (las a s N) s + 1) * s
      omega
    · rw [if_neg h2]
      exact .inr (.inl rfl)
  · rw [if_neg h1]
    exact .inl rfl

theorem upN_mono {a b s : Int} (h : a ≤ b) (h1 : 1 ≤ s) : upN a s ≤ upN b s := by
  unfold upN
  exact Int.ediv_le_ediv (by omega) (by omega)

theorem sum_of (a b c s : Int) (h1 : a ≤ b) (h2 : b ≤ c) (s1 : 1 ≤ s) : max (upN c s - upN a s) 0 = max (upN b s - upN a s) 0 + max (upN c s - upN b s) 0 := by
  have := upN_mono h1 s1
  have := upN_mono h2 s1
  omega
end Go.Proofs.Ytdkdklaoljmpgaa
