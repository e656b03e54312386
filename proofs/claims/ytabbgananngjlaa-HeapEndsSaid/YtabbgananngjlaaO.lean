/- Walks of the kit's Pick, the law's ahead; two items held against each other; the chapter's example. -/
import Derived.Test.YtabbgananngjlaaN
namespace Go.Proofs.Ytabbgananngjlaa
open Go.ChangeShapes Go.WideShapes Go.ChangeAt Go.RowKit
set_option linter.unusedVariables false

theorem eqIn40 (W : World) (a b c d : Int) : (Op.equalIn 10000 40 (.agg #[.int .i64 a, .int .i64 b]) (.agg #[.int .i64 c, .int .i64 d])).run Try.prog W = .ok (decide ((a, b) = (c, d))) W := by
  rw [run_equalIn_struct W 9999 40 _ _ (by kernel_rfl) (by kernel_rfl)]
  simp [Program.fieldsOf, Try.underlying40, Op.eqFields, go_sem]
  by_cases h1 : a = c <;> by_cases h2 : b = d <;> simp [h1, h2]
theorem eq40 (W : World) (a b c d : Int) : (binOp .eql 40 (.agg #[.int .i64 a, .int .i64 b]) (.agg #[.int .i64 c, .int .i64 d])).run Try.prog W = .ok (.bool (decide ((a, b) = (c, d)))) W := by
  rw [run_eql_struct, eqIn40]
  rfl
theorem ne40 (W : World) (a b c d : Int) : (binOp .neq 40 (.agg #[.int .i64 a, .int .i64 b]) (.agg #[.int .i64 c, .int .i64 d])).run Try.prog W = .ok (.bool (!decide ((a, b) = (c, d)))) W := by
  rw [run_neq_struct, eqIn40]
  rfl

theorem tmod_or (x n : Int) (h : x < 0) (hn : 1 ≤ n) : (x.tmod n = 0 ∧ x % n = 0) ∨ (x.tmod n < 0 ∧ -n < x.tmod n ∧ x % n = x.tmod n + n) := by
  have e := Int.tmod_eq_emod (a := x) (b := n)
  have b1 := Int.emod_nonneg x (show n ≠ 0 by omega)
  have b2 := Int.emod_lt_of_pos x (show 0 < n by omega)
  by_cases hd : n ∣ x
  · rw [if_pos (.inr hd)] at e
    have := Int.emod_eq_zero_of_dvd hd
    omega
  · rw [if_neg (by rintro (h1 | h1); omega; exact hd h1)] at e
    have hne : x % n ≠ 0 := fun h0 => hd (Int.dvd_of_emod_eq_zero h0)
    have hab : (n.natAbs : Int) = n := by omega
    rw [hab] at e
    omega

theorem pick_any (x n : Int) (w : World) (n1 : 1 ≤ n) (n2 : n ≤ 1099511627776) :
    Calls Try.prog 13 #[.int .i64 x, .int .i64 n] w fun e w' => e = .returned (.int .i64 (x % n)) ∧ w' = w := by
  by_cases h0 : 0 ≤ x
  · have b1 := Int.emod_nonneg x (show n ≠ 0 by omega)
    have b2 := Int.emod_lt_of_pos x (show 0 < n by omega)
    go_enter Try.func13, Try.ntmps13
    go_wp2
    go_ret
    exact ⟨rfl, rfl⟩
  · rcases tmod_or x n (by omega) n1 with ⟨h1, h2⟩ | ⟨h1, h2, h3⟩
    · have H1 := Lib.hid h1
      have H2 := Lib.hid h2
      have h3 : 0 ≤ x.tmod n := by omega
      have h4 : x.tmod n ≤ 0 := by omega
      clear h1 h2
      go_enter Try.func13, Try.ntmps13
      go_wp2
      go_ret
      exact ⟨ret_int (by rw [H1.out, H2.out]), rfl⟩
    · have H3 := Lib.hid h3
      clear h3
      go_enter Try.func13, Try.ntmps13
      go_wp2
      go_ret
      exact ⟨ret_int (by rw [H3.out]), rfl⟩

theorem pick_zero (x : Int) (w : World) : Calls Try.prog 13 #[.int .i64 x, .int .i64 0] w fun e w' => e = .returned (.int .i64 0) ∧ w' = w := by
  go_enter Try.func13, Try.ntmps13
  go_wp2
  go_ret
  exact ⟨rfl, rfl⟩

theorem lawAhead_any (x y : It) (w : World) : Calls Try.prog 27 #[.agg #[.int .i64 x.1, .int .i64 x.2], .agg #[.int .i64 y.1, .int .i64 y.2]] w fun e w' => e = .returned (.bool (le x y)) ∧ Below w.heap.size w w' := by
  obtain ⟨t, ht⟩ : ∃ t, le x y = t := ⟨_, rfl⟩
  rw [ht]
  have HT := Lib.hid ht
  clear ht
  by_cases h1 : x.1 < y.1
  · go_enter Try.func27, Try.ntmps27
    go_wp2
    go_ret
    refine ⟨ret_bool ?_, by go_grown⟩
    rw [← HT.out]
    simp [le, h1]
  · have h1' : y.1 ≤ x.1 := by omega
    by_cases h2 : x.1 = y.1
    · go_enter Try.func27, Try.ntmps27
      go_wp2
      go_ret
      refine ⟨ret_bool ?_, by go_grown⟩
      rw [← HT.out]
      simp [le, h2]
    · go_enter Try.func27, Try.ntmps27
      go_wp2
      go_ret
      refine ⟨ret_bool ?_, by go_grown⟩
      rw [← HT.out]
      simp [le, h1, h2]
end Go.Proofs.Ytabbgananngjlaa
