/- The reference's list of closes; the chapter's examples. -/
import Derived.Test.YtdkdklaoljmpgaaE
import Derived.OwnWalk
namespace Go.Proofs.Ytdkdklaoljmpgaa
open Go.ChangeShapes Go.WideShapes Go.ChangeAt Go.RowKit

theorem rCount_N (f t s : Int) (N : Nat) (q : Int) (w : World) (h : countV f t s = ((N : Int), q)) :
    Calls Try.prog 12 #[.int .i64 f, .int .i64 t, .int .i64 s] w fun e w' => e = .returned (.tuple #[.int .i64 N, .int .i64 q]) ∧ w = w' := by
  refine (rCount_any f t s w).mono ?_
  rintro e w' ⟨rfl, hw⟩
  rw [h]
  exact ⟨rfl, hw.symm⟩

theorem rDown_w (t s : Int) (w : World) (h1 : -1 ≤ t) (h2 : t ≤ 1099511627776) (h3 : 1 ≤ s) (h4 : s ≤ 1048576) :
    Calls Try.prog 30 #[.int .i64 t, .int .i64 s] w fun e w' => e = .returned (.int .i64 (upN t s)) ∧ w = w' :=
  (rDown_any t s w h1 h2 h3 h4).mono fun _ _ h => ⟨h.1, h.2.symm⟩

/-- behind an append to a list of one's own -/
theorem own_grown {w0 wr w2 : World} {B n : Nat} {v : Value} {xs : List Value} {o : Obj} (hb : Below B w0 wr) (hB : B ≤ wr.heap.size) (hrow : wr.ownsRow B 3 1 v n xs) (hg : (wr.alloc o).grownBy w2 v.ownBlock) : Below B w0 w2 :=
  (hb.alloc hB o).grown hg (by simp; omega) (fun k e => (hrow.lt k e).1)

theorem rcl_zero (f t s m q : Int) (w : World) (h : countV f t s = (((0 : Nat) : Int), q)) : Calls Try.prog 24 #[.int .i64 f, .int .i64 t, .int .i64 s, .int .i64 m] w (Gives [] w) := by
  have H := Lib.hid h
  clear h
  go_enter Try.func24, Try.ntmps24
  go_wp2_with (go_at_call 12; refine (rCount_N f t s 0 q _ H.out).mono ?_; rintro e w' ⟨rfl, rfl⟩)
  go_rounds 1
  go_ret
  exact ⟨_, rfl, ⟨none, 0, rfl, fun h => by simp at h⟩, Below.refl _ _⟩

theorem rcl_step (f s : Int) (k : Nat) : (upN f s + ((k : Int) + 1)) * s = (upN f s + 1) * s + (k : Int) * s := by
  rw [← Int.add_mul]; congr 1; omega

set_option maxHeartbeats 1000000 in
theorem rcl_some (f t s m : Int) (N K : Nat) (w : World) (h : countV f t s = ((N : Int), 0)) (m1 : -1 ≤ f) (m2 : f ≤ 1099511627776) (s1 : 1 ≤ s) (s2 : s ≤ 1048576) (hK : K = min N m.toNat) (hm : m ≤ 1000) (hN : N ≤ 1099511627776)
    (hbd : ∀ i : Nat, i < N → 0 ≤ (i : Int) * s ∧ (i : Int) * s ≤ 1099511627776 ∧ 0 ≤ (upN f s + 1) * s ∧ (upN f s + 1) * s ≤ 1099511627776) :
    Calls Try.prog 24 #[.int .i64 f, .int .i64 t, .int .i64 s, .int .i64 m] w (Gives (stp ((upN f s + 1) * s) s K) w) := by
  obtain ⟨i0, hi, hz0, hz1, hz2⟩ := info_parts info3
  have H := Lib.hid h
  have HB := Lib.hid hbd
  have HK := Lib.hid hK
  have hKN : K ≤ N := by omega
  obtain ⟨u1, u2⟩ := upN_bd f (s := s) m2 s1
  clear h hbd hK
  go_enter Try.func24, Try.ntmps24
  go_wp2_with (go_at_call 12; refine (rCount_N f t s N 0 _ H.out).mono ?_; rintro e w' ⟨rfl, rfl⟩)
  go_loopw [11, 12] (fun v i wr => ∃ k : Nat, k ≤ K ∧ i = .int .i64 ((k : Int) + 1) ∧ wr.ownsRow w.heap.size 3 1 v k ((stp ((upN f s + 1) * s) s k).map (Value.int .i64)) ∧ Below w.heap.size w wr) (fun _ i _ => K + 1 - (intOf i).toNat)
  case atStart => exact ⟨0, Nat.zero_le _, rfl, World.ownsRow_nil _ _ _ _, Below.refl _ _⟩
  case round =>
    obtain ⟨k, hk, rfl, hrow, hb⟩ := hrel
    by_cases hlt : k < K
    · have hx : K = min N m.toNat := HK.out
      have h1 : (k : Int) + 1 ≤ N := by omega
      have h2 : (k : Int) + 1 ≤ m := by omega
      have hk1000 : k < 1000 := by omega
      clear hx
      obtain ⟨a1, a2, a3, a4⟩ := HB.out k (by omega)
      have e := rcl_step f s k
      have HE := Lib.hid e
      have a5 : 0 ≤ (upN f s + ((k : Int) + 1)) * s := by rw [e]; omega
      have a6 : (upN f s + ((k : Int) + 1)) * s ≤ 2199023255552 := by rw [e]; omega
      clear e
      go_wp2_with (first | (go_at_call 30; refine (rDown_w f s _ m1 m2 s1 s2).mono ?_; rintro e w' ⟨rfl, rfl⟩) | (at_builtin; refine wpList_append_own _ rfl _ _ 30 rfl w.heap.size 3 i0 (.int .i64 0) 1 8 Try.underlying30 hi hz0 hz1 hz2 rfl (by decide) _ _ _ rfl (hrow.alloc _) ⟨wr.heap.size, 0, none⟩ 1 1 [.int .i64 ((upN f s + ((k : Int) + 1)) * s)] rfl rfl (cell_one_new _ _ _) (by simp [Value.oneCell']) (by unfold maxLen; omega) (by omega) (by have := hb.size; simp; omega) ?_; intro v' w2 hown' hgrow _))
      go_roundw
      case rel => exact ⟨k + 1, by omega, by go_num, by rw [stp_succ, List.map_append, ← HE.out]; exact hown', own_grown hb hb.size hrow hgrow⟩
      case measure => simp [intOf]; omega
    · have hx : K = min N m.toNat := HK.out
      obtain rfl : k = K := by omega
      have hor : (N : Int) < (k : Int) + 1 ∨ ((k : Int) + 1 ≤ N ∧ m < (k : Int) + 1) := by omega
      clear hx hlt
      have hir := IR.of_own hrow
      rcases hor with h1 | ⟨h1, h2⟩
      · go_wp2
        go_ret
        exact ⟨_, rfl, hir, hb⟩
      · go_wp2
        go_ret
        exact ⟨_, rfl, hir, hb⟩

theorem stp_take_min (a s : Int) (n m : Nat) : (stp a s n).take m = stp a s (min n m) := by
  rcases Nat.le_total n m with h | h
  · rw [Nat.min_eq_left h, List.take_of_length_le (by rw [stp_len]; exact h)]
  · rw [Nat.min_eq_right h, stp_take a s h]

theorem stp_zero (a s : Int) : stp a s 0 = [] := rfl

theorem rcl_any (f t s m : Int) (w : World) (hm : m ≤ 1000) : Calls Try.prog 24 #[.int .i64 f, .int .i64 t, .int .i64 s, .int .i64 m] w (Gives (firstL f t s m) w) := by
  unfold firstL
  rw [stp_take_min]
  obtain ⟨hN, hbd⟩ := cls_bd f t s
  by_cases hc : isMM f t && isW s
  · rw [Bool.and_eq_true] at hc
    obtain ⟨m1, m2, m3, m4⟩ := isMM_iff.1 hc.1
    obtain ⟨s1, s2⟩ := isW_iff.1 hc.2
    have hcv := countV_ok hc.1 hc.2
    have hnn := count_nn f t s
    obtain ⟨N, hNe⟩ : ∃ N, (countV f t s).1.toNat = N := ⟨_, rfl⟩
    have h1 : countV f t s = ((N : Int), 0) := by
      rw [hcv] at hnn hNe ⊢
      simp only [] at hnn hNe
      rw [← hNe]
      congr 1
      omega
    rw [hNe] at hN hbd ⊢
    rcases Nat.eq_zero_or_pos N with h0 | h0
    · subst h0
      rw [Nat.zero_min, stp_zero]
      exact rcl_zero f t s m 0 w h1
    · have hx := hbd 0 h0
      have hnx : (nextV f s).1 = (upN f s + 1) * s := by
        have hmf : isM f = true := isM_iff.2 ⟨m1, m2⟩
        obtain ⟨u7, u8⟩ := upN_mul f (s := s) m2 s1
        have k1 : 0 ≤ (upN f s + 1) * s := by rw [Int.add_mul]; omega
        unfold nextV at hx ⊢
        rw [hmf, hc.2] at hx ⊢
        simp only [Bool.and_self, if_true] at hx ⊢
        cases hT : isT ((upN f s + 1) * s) with
        | true => simp
        | false =>
          exfalso
          rcases isT_no.1 hT with h | h
          · omega
          · have h3 : (upN f s + 1) * s ≤ upN t s * s := Int.mul_le_mul_of_nonneg_right (by rw [hcv] at hNe; simp only [] at hNe; omega) (by omega)
            have h4 := (upN_mul t (s := s) m4 s1).2
            omega
      rw [hnx] at hbd ⊢
      exact rcl_some f t s m N _ w h1 m1 m2 s1 s2 rfl hm hN hbd
  · have e : countV f t s = (0, 2) := by unfold countV; rw [if_neg hc]
    have e2 : (countV f t s).1.toNat = 0 := by rw [e]; rfl
    rw [e2, Nat.zero_min, stp_zero]
    exact rcl_zero f t s m 2 w e
end Go.Proofs.Ytdkdklaoljmpgaa
