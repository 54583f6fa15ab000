/- The comparing of two entries, and the walk of the comparing of two slices that hold the same entries: it answers true. -/
import Derived.Test.YtjjahhiaelaocaaLs2
import Derived.Laws.StructEq
namespace Go.Proofs.Ytjjahhiaelaocaa
open Go.ChangeShapes Go.WideShapes Go.ChangeAt Go.RowKit

theorem equal26 (x y : Int × Int) (w : World) : (Op.equalIn 10000 26 (.agg #[.int .i64 x.1, .int .i64 x.2]) (.agg #[.int .i64 y.1, .int .i64 y.2])).run Try.prog w = .ok (decide (x = y)) w := by
  have u2 := Try.underlying2
  have a2 := Try.isAgg2
  have z2 := Try.sizeOf2
  have hS : Try.prog.underlying 26 = some (.struct (Try.prog.fieldsOf 26)) := by kernel_rfl
  have hp : Try.prog.stoodInHeld 26 = false := by kernel_rfl
  rw [show (10000 : Nat) = 9999 + 1 from rfl, run_equalIn_agg w 9999 26 _ _ hS hp]
  simp only [Program.fieldsOf, Try.underlying26]
  go_simp
  obtain ⟨x1, x2⟩ := x
  obtain ⟨y1, y2⟩ := y
  by_cases h1 : x1 = y1 <;> by_cases h2 : x2 = y2 <;> simp [h1, h2]
theorem eql26 (x y : Int × Int) (w : World) : (binOp .eql 26 (.agg #[.int .i64 x.1, .int .i64 x.2]) (.agg #[.int .i64 y.1, .int .i64 y.2])).run Try.prog w = .ok (.bool (decide (x = y))) w := by
  rw [run_eql_struct, equal26]
  rfl
theorem neq26 (x y : Int × Int) (w : World) : (binOp .neq 26 (.agg #[.int .i64 x.1, .int .i64 x.2]) (.agg #[.int .i64 y.1, .int .i64 y.2])).run Try.prog w = .ok (.bool (!decide (x = y))) w := by
  rw [run_neq_struct, equal26]
  rfl

set_option maxHeartbeats 1000000 in
theorem same_any (a1 a2 : Option Addr) (c1 c2 : Nat) (l : List (Int × Int)) (w : World) (hl : l.length ≤ 1000000) (hE1 : Ents w a1 l) (hE2 : Ents w a2 l) :
    Calls Try.prog 29 #[.slice a1 l.length c1, .slice a2 l.length c2] w fun e w' => e = .returned (.bool true) ∧ ∃ n, w' = w.drewN n := by
  have hne : ((l.length : Int) != (l.length : Int)) = false := by simp
  go_enter Try.func29, Try.ntmps29
  go_wp2
  go_loopw [5] (fun iv wr => ∃ j n : Nat, iv = .int .i64 j ∧ j ≤ l.length ∧ wr = w.drewN n) (fun i _ => l.length - (intOf i).toNat)
  case atStart => exact ⟨0, 0, rfl, Nat.zero_le _, rfl⟩
  case round =>
    obtain ⟨j, n, rfl, hj, rfl⟩ := hrel
    clear hne
    by_cases hlt : j < l.length
    · have hnl : l ≠ [] := fun e => by rw [e] at hlt; simp at hlt
      obtain ⟨b1, o1, rfl, hb1, hr1⟩ := hE1.resolve_left hnl
      obtain ⟨b2, o2, rfl, hb2, hr2⟩ := hE2.resolve_left hnl
      clear hE1 hE2 hnl
      obtain ⟨h1, h2⟩ := hr1 j hlt
      obtain ⟨h3, h4⟩ := hr2 j hlt
      clear hr1 hr2
      generalize (ent l j) = x at h1 h2 h3 h4
      have hn := fun w => neq26 x x w
      go_wp2
      go_quiet (fail)
      clear hn h1 h2 h3 h4
      go_wp2
      go_roundw
      case rel => exact ⟨j + 1, _, by go_num, by omega, rfl⟩
      case measure => simp [intOf]; omega
    · clear hE1 hE2
      go_wp2
      go_ret
      exact ⟨rfl, n, rfl⟩
end Go.Proofs.Ytjjahhiaelaocaa
