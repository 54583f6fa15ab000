/- What is held, compared. -/
import Derived.Test.YthfdooigljkfiaaGreatGc
namespace Go.Proofs.YthfdooigljkfiaaGreat
open Go.ChangeShapes Go.WideShapes Go.ChangeAt Go.RowKit

theorem equal65 (a b c : Int) (w : World) : (Op.equalIn 10000 57 (.agg #[.int .i64 a, .int .i64 b, .int .i64 c]) (.agg #[.int .i64 a, .int .i64 b, .int .i64 c])).run Tryz.prog w = .ok true w := by
  have u2 := Tryz.underlying2
  have a2 := Tryz.isAgg2
  have z2 := Tryz.sizeOf2
  have u3 := Tryz.underlying3
  have a3 := Tryz.isAgg3
  have z3 := Tryz.sizeOf3
  have a4 := Tryz.isAgg55
  have z4 := Tryz.sizeOf55
  have hS : Tryz.prog.underlying 57 = some (.struct (Tryz.prog.fieldsOf 57)) := by kernel_rfl
  have hp : Tryz.prog.stoodInHeld 57 = false := by kernel_rfl
  have hS4 : Tryz.prog.underlying 55 = some (.struct (Tryz.prog.fieldsOf 55)) := by kernel_rfl
  have hp4 : Tryz.prog.stoodInHeld 55 = false := by kernel_rfl
  obtain ⟨d, hd⟩ : ∃ d, (10000 : Nat) = d + 1 + 1 + 1 := ⟨9997, rfl⟩
  rw [hd, run_equalIn_agg w _ 57 _ _ hS hp]
  simp only [Program.fieldsOf, Tryz.underlying57]
  have E4 : ∀ w, (Op.equalIn (d + 1 + 1) 55 (.agg #[.int .i64 b, .int .i64 c]) (.agg #[.int .i64 b, .int .i64 c])).run Tryz.prog w = .ok true w := fun w => by
    rw [run_equalIn_agg w _ 55 _ _ hS4 hp4]
    simp only [Program.fieldsOf, Tryz.underlying55]
    go_simp
  clear hd hS hp hS4 hp4
  go_simp
theorem neq65 (a b c : Int) (w : World) : (binOp .neq 57 (.agg #[.int .i64 a, .int .i64 b, .int .i64 c]) (.agg #[.int .i64 a, .int .i64 b, .int .i64 c])).run Tryz.prog w = .ok (.bool false) w := by
  rw [run_neq_struct, equal65]
  simp
end Go.Proofs.YthfdooigljkfiaaGreat
