/- What is held, compared. -/
import Derived.Test.YthfdooigljkfiaaGc
namespace Go.Proofs.Ythfdooigljkfiaa
open Go.ChangeShapes Go.WideShapes Go.ChangeAt Go.RowKit

theorem equal65 (a b c : Int) (w : World) : (Op.equalIn 10000 55 (.agg #[.int .i64 a, .int .i64 b, .int .i64 c]) (.agg #[.int .i64 a, .int .i64 b, .int .i64 c])).run Try.prog w = .ok true w := by
  have u2 := Try.underlying2
  have a2 := Try.isAgg2
  have z2 := Try.sizeOf2
  have u3 := Try.underlying3
  have a3 := Try.isAgg3
  have z3 := Try.sizeOf3
  have a4 := Try.isAgg35
  have z4 := Try.sizeOf35
  have hS : Try.prog.underlying 55 = some (.struct (Try.prog.fieldsOf 55)) := by kernel_rfl
  have hp : Try.prog.stoodInHeld 55 = false := by kernel_rfl
  have hS4 : Try.prog.underlying 35 = some (.struct (Try.prog.fieldsOf 35)) := by kernel_rfl
  have hp4 : Try.prog.stoodInHeld 35 = false := by kernel_rfl
  obtain ⟨d, hd⟩ : ∃ d, (10000 : Nat) = d + 1 + 1 + 1 := ⟨9997, rfl⟩
  rw [hd, run_equalIn_agg w _ 55 _ _ hS hp]
  simp only [Program.fieldsOf, Try.underlying55]
  have E4 : ∀ w, (Op.equalIn (d + 1 + 1) 35 (.agg #[.int .i64 b, .int .i64 c]) (.agg #[.int .i64 b, .int .i64 c])).run Try.prog w = .ok true w := fun w => by
    rw [run_equalIn_agg w _ 35 _ _ hS4 hp4]
    simp only [Program.fieldsOf, Try.underlying35]
    go_simp
  clear hd hS hp hS4 hp4
  go_simp
theorem neq65 (a b c : Int) (w : World) : (binOp .neq 55 (.agg #[.int .i64 a, .int .i64 b, .int .i64 c]) (.agg #[.int .i64 a, .int .i64 b, .int .i64 c])).run Try.prog w = .ok (.bool false) w := by
  rw [run_neq_struct, equal65]
  simp
end Go.Proofs.Ythfdooigljkfiaa
