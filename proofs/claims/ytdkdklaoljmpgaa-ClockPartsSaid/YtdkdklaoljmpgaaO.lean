/- ClockParts: all of it. -/
import Derived.Test.YtdkdklaoljmpgaaN
namespace Go.Proofs.Ytdkdklaoljmpgaa
open Go.ChangeShapes Go.WideShapes Go.ChangeAt Go.RowKit

theorem countV_or (a c s : Int) : countV a c s = (0, 2) ∨ ∃ v, countV a c s = (v, 0) ∧ isMM a c = true ∧ isW s = true ∧ v = max (upN c s - upN a s) 0 := by
  cases h : isMM a c <;> cases k : isW s <;> simp [countV, h, k]

theorem stp_clo (a s : Int) (K i : Nat) (h : i < (stp ((upN a s + 1) * s) s K).length) : (stp ((upN a s + 1) * s) s K)[i] = clo a s i := by
  rw [stp_get]; rfl

theorem parts_walk (a b c s : Int) (w : World) :
    Calls Try.prog 5 #[.int .i64 a, .int .i64 b, .int .i64 c, .int .i64 s] w fun e w' => e = .returned (.bool true) ∧ Below w.heap.size w w' := by
  rcases countV_or a c s with hn | ⟨n, hn, hac, hs, en⟩
  · exact parts_err a b c s 0 _ _ 2 _ _ w hn rfl rfl (.inl rfl)
  rcases countV_or a b s with hm | ⟨m, hm, hab, _, em⟩
  · exact parts_err a b c s n 0 _ 0 2 _ w hn hm rfl (.inr (.inl ⟨rfl, rfl⟩))
  rcases countV_or b c s with hk | ⟨k, hk, hbc, _, ek⟩
  · exact parts_err a b c s n m 0 0 0 2 w hn hm hk (.inr (.inr ⟨rfl, rfl, rfl⟩))
  obtain ⟨a1, a2, c1, c2⟩ := isMM_iff.1 hac
  obtain ⟨_, _, b1, b2⟩ := isMM_iff.1 hab
  obtain ⟨s1, s2⟩ := isW_iff.1 hs
  obtain ⟨ua1, ua2⟩ := upN_bd a (s := s) a2 s1
  obtain ⟨ub1, ub2⟩ := upN_bd b (s := s) b2 s1
  obtain ⟨uc1, uc2⟩ := upN_bd c (s := s) c2 s1
  have n1 : 0 ≤ n := by omega
  obtain ⟨N, hN⟩ : ∃ N : Nat, (N : Int) = n := ⟨n.toNat, by omega⟩
  have hG : ∀ i, i < min N 500 → Good a c s i := fun i hi => good_of a c s i a1 a2 c2 s1 s2 (by omega)
  have hL : firstL a c s 500 = stp ((upN a s + 1) * s) s (min N 500) := by
    unfold firstL
    rw [hn]
    show (stp (nextV a s).1 s n.toNat).take 500 = _
    rw [stp_take_min, show n.toNat = N by omega]
    rcases Nat.eq_zero_or_pos N with h0 | h0
    · subst h0; rfl
    · have g := (hG 0 (by omega)).next
      have g' : nextV a s = (clo a s 0, 0) := g
      rw [g']
      show stp (clo a s 0) s _ = _
      congr 1
      rw [clo_eq]
      congr 1
      omega
  have hlen : (stp ((upN a s + 1) * s) s (min N 500)).length = min N 500 := stp_len _ _ _
  have hf : ∀ i (h : i < (stp ((upN a s + 1) * s) s (min N 500)).length), (stp ((upN a s + 1) * s) s (min N 500))[i] = clo a s i := fun i h => stp_clo a s _ i h
  obtain ⟨x, hx⟩ : ∃ x, (nextV (las a s (min N 500)) s).1 = x := ⟨_, rfl⟩
  obtain ⟨y, hy⟩ : ∃ y, (nextV (las a s (min N 500)) s).2 = y := ⟨_, rfl⟩
  have hlast : nextV (las a s (min N 500)) s = (x, y) := by rw [← hx, ← hy]
  have hK : (n ≤ 500 ∧ ((min N 500 : Nat) : Int) = n ∧ (500 ≤ n ∨ y = 2 ∨ y = 6 ∨ (y = 0 ∧ c < x))) ∨ (500 < n ∧ min N 500 = 500) := by
    rcases Int.lt_or_le 500 n with h | h
    · exact .inr ⟨h, by omega⟩
    · refine .inl ⟨h, by omega, .inr ?_⟩
      have hmin : min N 500 = N := by omega
      rw [hmin] at hx hy
      have := last_of a c s N a2 c2 s1 s2 (by omega)
      rw [hx, hy] at this
      exact this
  by_cases hq : a ≤ b
  · by_cases hq2 : b ≤ c
    · have hsum := sum_of a b c s hq hq2 s1
      exact parts_mid1 a b c s n m k x y _ _ w hn hm hk hL hlen hf hG hlast n1 (by omega) (by omega) (by omega) (by omega) (by omega) s1 s2 ⟨hq, hq2, by omega⟩ hK
    · exact parts_mid3 a b c s n m k x y _ _ w hn hm hk hL hlen hf hG hlast n1 (by omega) (by omega) (by omega) (by omega) (by omega) s1 s2 ⟨hq, by omega⟩ hK
  · exact parts_mid2 a b c s n m k x y _ _ w hn hm hk hL hlen hf hG hlast n1 (by omega) (by omega) (by omega) (by omega) (by omega) s1 s2 (by omega) hK
end Go.Proofs.Ytdkdklaoljmpgaa
