/- The walks of order.Add and of the reference's Add: both answer the sum held at the ends of an int64. -/
import Derived.Test.YtjjahhiaelaocaaRows
import Derived.WalkKit
import Derived.ProofKit
import Derived.OpenShut
namespace Go.Proofs.Ytjjahhiaelaocaa
open Go.ChangeShapes Go.WideShapes Go.ChangeAt Go.RowKit

/-- a sum, held at the ends of an int64 -/
def addS (a b : Int) : Int := if 9223372036854775807 < a + b then 9223372036854775807 else if a + b < -9223372036854775808 then -9223372036854775808 else a + b

/-- the numbers of an int64 -/
def I64 (x : Int) : Prop := -9223372036854775808 ≤ x ∧ x ≤ 9223372036854775807

theorem i64_of_wf {x : Int} (h : (Lit.int .i64 x).wf = true) : I64 x := by
  simp [Lit.wf, IntKind.min, IntKind.max, IntKind.signed, IntKind.bits] at h
  exact ⟨by omega, by omega⟩

theorem addS_hi {a b : Int} (h : 9223372036854775807 < a + b) : addS a b = 9223372036854775807 := by unfold addS; rw [if_pos h]
theorem addS_lo {a b : Int} (h : a + b < -9223372036854775808) : addS a b = -9223372036854775808 := by unfold addS; rw [if_neg (by omega), if_pos h]
theorem addS_mid {a b : Int} (h : I64 (a + b)) : addS a b = a + b := by obtain ⟨_, _⟩ := h; unfold addS; rw [if_neg (by omega), if_neg (by omega)]
theorem addS_i64 {a b : Int} : I64 (addS a b) := by unfold addS I64; split <;> (try split) <;> omega
theorem ret_int {k : IntKind} {a b : Int} (h : a = b) : Ending.returned (.int k a) = .returned (.int k b) := by rw [h]

set_option maxHeartbeats 400000 in
theorem add_any (a b : Int) (ha : I64 a) (hb : I64 b) (w : World) :
    Calls Try.prog 17 #[.int .i64 a, .int .i64 b] w fun e w' => e = .returned (.int .i64 (addS a b)) ∧ w' = w := by
  obtain ⟨ha1, ha2⟩ := ha; obtain ⟨hb1, hb2⟩ := hb
  by_cases p : 0 < b
  · by_cases q : 9223372036854775807 - b < a
    · go_enter Try.func17, Try.ntmps17
      go_wp2
      go_ret
      exact ⟨ret_int (addS_hi (by omega)).symm, rfl⟩
    · go_enter Try.func17, Try.ntmps17
      go_wp2
      go_ret
      exact ⟨ret_int (addS_mid ⟨by omega, by omega⟩).symm, rfl⟩
  · by_cases p' : b < 0
    · by_cases q : a < -9223372036854775808 - b
      · go_enter Try.func17, Try.ntmps17
        go_wp2
        go_ret
        exact ⟨ret_int (addS_lo (by omega)).symm, rfl⟩
      · go_enter Try.func17, Try.ntmps17
        go_wp2
        go_ret
        exact ⟨ret_int (addS_mid ⟨by omega, by omega⟩).symm, rfl⟩
    · go_enter Try.func17, Try.ntmps17
      go_wp2
      go_ret
      exact ⟨ret_int (addS_mid ⟨by omega, by omega⟩).symm, rfl⟩
end Go.Proofs.Ytjjahhiaelaocaa
