/- ClockDoes and ClockEnds: the walks. -/
import Derived.Test.YtdkdklaoljmpgaaG
namespace Go.Proofs.Ytdkdklaoljmpgaa
open Go.ChangeShapes Go.WideShapes Go.ChangeAt Go.RowKit

theorem Gives.ir {l : List Int} {w : World} {e : Ending} {w' : World} (h : Gives l w e w') : ∃ v, e = .returned v ∧ IR w' v l ∧ Below w.heap.size w w' := h

theorem firstL_len (f t s m : Int) (h : m ≤ 1000) : (firstL f t s m).length ≤ 1000000 := by
  unfold firstL
  rw [List.length_take]
  omega

set_option maxRecDepth 100000 in
set_option maxHeartbeats 4000000 in
theorem does_any (a b n m : Int) (w : World) : Calls Try.prog 3 #[.int .i64 a, .int .i64 b, .int .i64 n, .int .i64 m] w fun e w' => e = .returned (.bool true) ∧ Below w.heap.size w w' := by
  have p1 : m % 500 ≤ 1000 := by omega
  have HP := Lib.hid p1
  have FL := Lib.hid (firstL_len a b n (m % 500) p1)
  clear p1
  obtain ⟨q, hq⟩ : ∃ q, m % 500 = q := ⟨_, rfl⟩
  have HQ := Lib.hid hq
  rw [hq] at HP FL
  clear hq
  go_enter Try.func3, Try.ntmps3
  go_wp2_with fail
  refine (add_any a b _).mono ?_
  rintro e w1 ⟨rfl, hb1⟩
  go_wp2_with fail
  refine (rAdd_any a b _).mono ?_
  rintro e w2 ⟨rfl, hw⟩
  have hw := hw.symm
  subst hw
  go_wp2_with fail
  refine (next_any a n _).mono ?_
  rintro e w2 ⟨rfl, hb2⟩
  have hb2 := hb1.trans (hb2.mono hb1.size)
  go_wp2_with fail
  refine (rNext_any a n _).mono ?_
  rintro e w3 ⟨rfl, hw⟩
  have hw := hw.symm
  subst hw
  go_wp2_with fail
  refine (count_any a b n _).mono ?_
  rintro e w3 ⟨rfl, hb3⟩
  have hb3 := hb2.trans (hb3.mono hb2.size)
  go_wp2_with fail
  refine (rCount_any a b n _).mono ?_
  rintro e w4 ⟨rfl, hw⟩
  have hw := hw.symm
  subst hw
  go_wp2_with fail
  refine (begin_any a n _).mono ?_
  rintro e w4 ⟨rfl, hb4⟩
  have hb4 := hb3.trans (hb4.mono hb3.size)
  go_wp2_with fail
  refine (rBegin_any a n _).mono ?_
  rintro e w5 ⟨rfl, hw⟩
  have hw := hw.symm
  subst hw
  go_wp2_with fail
  refine (pick_any m 500 _ (by omega) (by omega)).mono ?_
  rintro e w5 ⟨rfl, hw⟩
  have hw := hw.symm
  subst hw
  rw [HQ.out]
  go_wp2_with fail
  refine (is_any a _).mono ?_
  rintro e w5 ⟨rfl, hb5⟩
  have hb5 := hb4.trans (hb5.mono hb4.size)
  go_wp2_with fail
  refine (rIs_any a _).mono ?_
  rintro e w6 ⟨rfl, hw⟩
  have hw := hw.symm
  subst hw
  go_wp2_with fail
  refine (mark_any a _).mono ?_
  rintro e w6 ⟨rfl, hb6⟩
  have hb6 := hb5.trans (hb6.mono hb5.size)
  go_wp2_with fail
  refine (rMark_any a _).mono ?_
  rintro e w7 ⟨rfl, hw⟩
  have hw := hw.symm
  subst hw
  go_wp2_with fail
  refine (in_any a b n _).mono ?_
  rintro e w7 ⟨rfl, hb7⟩
  have hb7 := hb6.trans (hb7.mono hb6.size)
  go_wp2_with fail
  refine (rIn_any a b n _).mono ?_
  rintro e w8 ⟨rfl, hw⟩
  have hw := hw.symm
  subst hw
  go_wp2_with fail
  refine (first_any a b n q _ HP.out).mono ?_
  rintro e w8 ⟨v1, rfl, hv1, hb8⟩
  have hb8 := hb7.trans (hb8.mono hb7.size)
  go_wp2_with fail
  refine (rcl_any a b n q _ HP.out).mono ?_
  rintro e w9 ⟨v2, rfl, hv2, hb9⟩
  have hv1 := hv1.below hb9
  have hb9 := hb8.trans (hb9.mono hb8.size)
  go_wp2_with fail
  refine (same_any v1 v2 _ _ _ hv1 hv2 FL.out).mono ?_
  rintro e w10 ⟨rfl, hb10⟩
  have hb10 := hb9.trans (hb10.mono hb9.size)
  go_wp2_with fail
  refine (awake_any _).mono ?_
  rintro e w11 ⟨rfl, hb11⟩
  have hb11 := hb10.trans (hb11.mono hb10.size)
  go_wp2_with fail
  go_ret
  exact ⟨rfl, hb11⟩
end Go.Proofs.Ytdkdklaoljmpgaa
