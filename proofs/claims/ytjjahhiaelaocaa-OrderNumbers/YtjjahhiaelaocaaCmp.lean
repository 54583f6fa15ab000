/- The walks of order.Compare and of the reference's Compare: -1, 0 or 1, as the entries stand to one another; nothing that was there is turned. -/
import Derived.Test.YtjjahhiaelaocaaLst
namespace Go.Proofs.Ytjjahhiaelaocaa
open Go.ChangeShapes Go.WideShapes Go.ChangeAt Go.RowKit

/-- how the entries (a1, a2) and (b1, b2) compare -/
def cmpS (a1 a2 b1 b2 : Int) : Int := if bef a1 a2 b1 b2 = true then -1 else if bef b1 b2 a1 a2 = true then 1 else 0

theorem below_a2 {B : Nat} {w wr : World} (h : Below B w wr) (hB : B ≤ w.heap.size) (o1 o2 : Obj) : Below B w ((wr.alloc o1).alloc o2) := below_a1 (below_a1 h hB o1) hB o2

set_option maxHeartbeats 400000 in
theorem compare_any (a1 a2 b1 b2 : Int) (w : World) :
    Calls Try.prog 19 #[.agg #[.int .i64 a1, .int .i64 a2], .agg #[.int .i64 b1, .int .i64 b2]] w fun e w' =>
      e = .returned (.int .i64 (cmpS a1 a2 b1 b2)) ∧ Below w.heap.size w w' := by
  have h1 := fun w => before_any a1 a2 b1 b2 w
  have h2 := fun w => before_any b1 b2 a1 a2 w
  unfold cmpS
  generalize bef a1 a2 b1 b2 = r at h1 ⊢
  generalize bef b1 b2 a1 a2 = s at h2 ⊢
  have H1 : Hid _ := h1
  have H2 : Hid _ := h2
  clear h1 h2
  have hz : w.heap.size < w.heap.size + 1 + 1 + 1 := by omega
  have hz' : w.heap.size + 1 < w.heap.size + 1 + 1 + 1 := by omega
  cases r
  · cases s
    all_goals
      go_enter Try.func19, Try.ntmps19
      go_wp2_with fail
      refine (H1.out _).mono ?_
      rintro e w' ⟨rfl, c1, c2, rfl⟩
      go_wp2_with fail
      refine (H2.out _).mono ?_
      rintro e w' ⟨rfl, c3, c4, rfl⟩
      go_wp2
      go_ret
      exact ⟨ret_int (by simp), below_a2 (below_a2 (below_a2 (Below.refl _ _) (Nat.le_refl _) _ _) (Nat.le_refl _) _ _) (Nat.le_refl _) _ _⟩
  · go_enter Try.func19, Try.ntmps19
    go_wp2_with fail
    refine (H1.out _).mono ?_
    rintro e w' ⟨rfl, c1, c2, rfl⟩
    go_wp2
    go_ret
    exact ⟨ret_int (by simp), below_a2 (below_a2 (Below.refl _ _) (Nat.le_refl _) _ _) (Nat.le_refl _) _ _⟩

set_option maxHeartbeats 400000 in
theorem refCompare_any (a1 a2 b1 b2 : Int) (w : World) :
    Calls Try.prog 20 #[.agg #[.int .i64 a1, .int .i64 a2], .agg #[.int .i64 b1, .int .i64 b2]] w fun e w' =>
      e = .returned (.int .i64 (cmpS a1 a2 b1 b2)) ∧ Below w.heap.size w w' := by
  have h1 := fun w => refBefore_any a1 a2 b1 b2 w
  have h2 := fun w => refBefore_any b1 b2 a1 a2 w
  unfold cmpS
  generalize bef a1 a2 b1 b2 = r at h1 ⊢
  generalize bef b1 b2 a1 a2 = s at h2 ⊢
  have H1 : Hid _ := h1
  have H2 : Hid _ := h2
  clear h1 h2
  have hz : w.heap.size < w.heap.size + 1 + 1 + 1 := by omega
  have hz' : w.heap.size + 1 < w.heap.size + 1 + 1 + 1 := by omega
  cases r
  · cases s
    all_goals
      go_enter Try.func20, Try.ntmps20
      go_wp2_with fail
      refine (H1.out _).mono ?_
      rintro e w' ⟨rfl, c1, c2, rfl⟩
      go_wp2_with fail
      refine (H2.out _).mono ?_
      rintro e w' ⟨rfl, c3, c4, rfl⟩
      go_wp2
      go_ret
      exact ⟨ret_int (by simp), below_a2 (below_a2 (below_a2 (Below.refl _ _) (Nat.le_refl _) _ _) (Nat.le_refl _) _ _) (Nat.le_refl _) _ _⟩
  · go_enter Try.func20, Try.ntmps20
    go_wp2_with fail
    refine (H1.out _).mono ?_
    rintro e w' ⟨rfl, c1, c2, rfl⟩
    go_wp2
    go_ret
    exact ⟨ret_int (by simp), below_a2 (below_a2 (Below.refl _ _) (Nat.le_refl _) _ _) (Nat.le_refl _) _ _⟩
end Go.Proofs.Ytjjahhiaelaocaa
