/- The chapter's examples. -/
import Derived.Test.YtdkdklaoljmpgaaF
namespace Go.Proofs.Ytdkdklaoljmpgaa
open Go.ChangeShapes Go.WideShapes Go.ChangeAt Go.RowKit

theorem ex1 : beginV 10 4 = (6, 0) := by decide +kernel
theorem ex2 : firstL 3 15 5 9 = [5, 10, 15] := by decide +kernel
theorem ex3 : inB 7 10 4 = true := by decide +kernel
theorem ex4 : inB 6 10 4 = false := by decide +kernel

theorem IR.lit3 (w : World) (a b c : Int) : IR (w.alloc (.cells #[.int .i64 a, .int .i64 b, .int .i64 c] 3)) (.slice (some ⟨w.heap.size, 0, none⟩) 3 3) [a, b, c] :=
  ⟨_, 3, rfl, fun _ => ⟨w.heap.size, rfl, by simp, fun k hk => by
    match k, hk with
    | 0, _ => simp
    | 1, _ => simp
    | 2, _ => simp⟩⟩

theorem ex_first (w : World) : Calls Try.prog 23 #[.int .i64 3, .int .i64 15, .int .i64 5, .int .i64 9] w (Gives [5, 10, 15] w) := by
  have h := first_any 3 15 5 9 w (by decide)
  rw [ex2] at h
  exact h
theorem ex_in7 (w : World) : Calls Try.prog 20 #[.int .i64 7, .int .i64 10, .int .i64 4] w fun e w' => e = .returned (.bool true) ∧ Below w.heap.size w w' := by
  have h := in_any 7 10 4 w
  rw [ex3] at h
  exact h
theorem ex_in6 (w : World) : Calls Try.prog 20 #[.int .i64 6, .int .i64 10, .int .i64 4] w fun e w' => e = .returned (.bool false) ∧ Below w.heap.size w w' := by
  have h := in_any 6 10 4 w
  rw [ex4] at h
  exact h
theorem ex_same (v1 v2 : Value) (w : World) (h1 : IR w v1 [5, 10, 15]) (h2 : IR w v2 [5, 10, 15]) :
    Calls Try.prog 22 #[v1, v2] w fun e w' => e = .returned (.bool true) ∧ Below w.heap.size w w' := by
  have h := same_any v1 v2 _ _ w h1 h2 (by decide)
  exact h

set_option maxHeartbeats 1000000 in
theorem awake_any (w : World) : Calls Try.prog 25 #[] w fun e w' => e = .returned (.bool true) ∧ Below w.heap.size w w' := by
  go_enter Try.func25, Try.ntmps25
  go_wp2_with fail
  refine (begin_yes 10 4 6 _ ex1).mono ?_
  rintro e w1 ⟨rfl, hb1⟩
  go_wp2_with fail
  refine (ex_first _).mono ?_
  rintro e w2 ⟨v, rfl, hv, hb2⟩
  go_wp2_with fail
  have hB2 := hb1.trans (hb2.mono hb1.size)
  have hv2 := hv.below ((Below.refl _ w2).alloc (Nat.le_refl _) (.cells #[.int .i64 5, .int .i64 10, .int .i64 15] 3))
  refine (ex_same _ _ _ hv2 (IR.lit3 w2 5 10 15)).mono ?_
  rintro e w3 ⟨rfl, hb3⟩
  have hB3 := (hB2.alloc hB2.size _).trans (hb3.mono (by have := hB2.size; simp; omega))
  go_wp2_with fail
  refine (ex_in7 _).mono ?_
  rintro e w4 ⟨rfl, hb4⟩
  have hB4 := hB3.trans (hb4.mono hB3.size)
  go_wp2_with fail
  refine (ex_in6 _).mono ?_
  rintro e w5 ⟨rfl, hb5⟩
  have hB5 := hB4.trans (hb5.mono hB4.size)
  go_wp2_with fail
  go_ret
  exact ⟨rfl, hB5⟩
end Go.Proofs.Ytdkdklaoljmpgaa
