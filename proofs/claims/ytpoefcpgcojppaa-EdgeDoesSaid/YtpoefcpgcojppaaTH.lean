/- Two values held against each other. -/
import Derived.Test.YtpoefcpgcojppaaTF
import Derived.Lib.QuietBelow
namespace Go.Proofs.Ytpoefcpgcojppaa
open Go.ChangeShapes Go.WideShapes Go.ChangeAt Go.RowKit
set_option linter.unusedVariables false
theorem eqIn31 (W : World) (d : Nat) (a a' b b' : Int) (c c' : ByteArray) : (Op.equalIn (d + 1 + 1) 31 (.agg #[.int .i64 a, .int .i64 b, .string c]) (.agg #[.int .i64 a', .int .i64 b', .string c'])).run Try.prog W = .ok (decide ((a, b, c) = (a', b', c'))) W := by
  rw [run_equalIn_struct W (d + 1) 31 _ _ (by kernel_rfl) (by kernel_rfl)]
  simp [Program.fieldsOf, Try.underlying31, Op.eqFields, go_sem]
  simp only [tl_iff]
  by_cases h1 : a = a' <;> by_cases h2 : b = b' <;> by_cases h3 : c = c' <;> simp [h1, h2, h3]
theorem eq31_eq (W : World) (a b : Int) (c : ByteArray) : (binOp .eql 31 (.agg #[.int .i64 a, .int .i64 b, .string c]) (.agg #[.int .i64 a, .int .i64 b, .string c])).run Try.prog W = .ok (.bool true) W := by
  rw [run_eql_struct, eqIn31, decide_eq_true rfl]
  rfl
end Go.Proofs.Ytpoefcpgcojppaa
