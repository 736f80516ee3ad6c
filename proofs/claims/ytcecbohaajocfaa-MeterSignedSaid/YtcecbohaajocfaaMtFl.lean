/- Links compared. -/
import Derived.Test.YtcecbohaajocfaaMtFj
import Derived.Laws.StructEq

set_option linter.unusedSimpArgs false
set_option linter.unusedVariables false
namespace Go.Proofs.Ytcecbohaajocfaa
open Go.RowKit

theorem eqRdg (r : Rg) (w : World) : (Op.equalIn 9999 65 (.agg #[.int .i64 r.m, .int .i64 r.h, .int .i64 r.v]) (.agg #[.int .i64 r.m, .int .i64 r.h, .int .i64 r.v])).run Try.prog w = .ok true w := by
  have u3 := Try.underlying3
  have a3 := Try.isAgg3
  have z3 := Try.sizeOf3
  have hS : Try.prog.underlying 65 = some (.struct (Try.prog.fieldsOf 65)) := by kernel_rfl
  rw [show (9999 : Nat) = 9998 + 1 from rfl, run_equalIn_agg w 9998 65 _ _ hS (by kernel_rfl)]
  simp only [Program.fieldsOf, Try.underlying65]
  go_simp
theorem eqLnk (r : Rg) (s s' : Int) (w : World) : (Op.equalIn 10000 67 (.agg #[.int .i64 r.m, .int .i64 r.h, .int .i64 r.v, .int .u64 s]) (.agg #[.int .i64 r.m, .int .i64 r.h, .int .i64 r.v, .int .u64 s'])).run Try.prog w = .ok (s == s') w := by
  have u3 := Try.underlying3
  have a3 := Try.isAgg3
  have z3 := Try.sizeOf3
  have u5 := Try.underlying55
  have a5 := Try.isAgg55
  have z5 := Try.sizeOf55
  have u4 := Try.underlying65
  have a4 := Try.isAgg65
  have z4 := Try.sizeOf65
  have e4 := eqRdg r
  have hS : Try.prog.underlying 67 = some (.struct (Try.prog.fieldsOf 67)) := by kernel_rfl
  rw [show (10000 : Nat) = 9999 + 1 from rfl, run_equalIn_agg w 9999 67 _ _ hS (by kernel_rfl)]
  simp only [Program.fieldsOf, Try.underlying67]
  go_simp
  by_cases h : s = s'
  · simp [h]
  · simp [h]
end Go.Proofs.Ytcecbohaajocfaa
