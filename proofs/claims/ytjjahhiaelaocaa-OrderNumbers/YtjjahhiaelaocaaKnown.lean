/- The walk of the laws' own check of some of the chapter's runs: it answers true. -/
import Derived.Test.YtjjahhiaelaocaaLst
namespace Go.Proofs.Ytjjahhiaelaocaa
open Go.ChangeShapes Go.WideShapes Go.ChangeAt Go.RowKit

theorem known_least : leastS [(5, 0), (2, 0)] 2 = 1 := by decide
theorem known_bits : bitsS 8 = 4 := by decide
theorem known_hi : addS 9223372036854775807 1 = 9223372036854775807 := by decide
theorem known_lo : addS (-9223372036854775808) (-1) = -9223372036854775808 := by decide
theorem i64_lit {x : Int} (h1 : -9223372036854775808 ≤ x) (h2 : x ≤ 9223372036854775807) : I64 x := ⟨h1, h2⟩

theorem known_row (w : World) : Row (w.alloc (.cells #[.int .i64 5, .int .i64 0, .int .i64 2, .int .i64 0] 26)) w.heap.size 0 [(5, 0), (2, 0)] := by
  intro i hi
  match i, hi with
  | 0, _ => simp [go_sem, ent]
  | 1, _ => simp [go_sem, ent]

theorem known_two (w : World) :
    Calls Try.prog 26 #[.slice (some ⟨w.heap.size, 0, none⟩) 2 2] (w.alloc (.cells #[.int .i64 5, .int .i64 0, .int .i64 2, .int .i64 0] 26)) fun e w' =>
      e = .returned (.tuple #[.int .i64 1, .bool true]) ∧ Below w.heap.size w w' := by
  refine (least_any w.heap.size 0 2 [(5, 0), (2, 0)] _ (by simp) (by decide) (by decide) (known_row w)).mono ?_
  rintro e w' ⟨rfl, hb⟩
  refine ⟨ret_ib ?_ rfl, ?_⟩
  · have := known_least
    show ((leastS [(5, 0), (2, 0)] 2 : Nat) : Int) = 1
    rw [this]; rfl
  · exact ((Below.refl _ w).alloc (Nat.le_refl _) _).trans (hb.mono (by simp))

set_option maxHeartbeats 400000 in
theorem known_any (w : World) :
    Calls Try.prog 9 #[] w fun e w' => e = .returned (.bool true) ∧ Below w.heap.size w w' := by
  have c1 : ∀ w, Calls Try.prog 21 #[.int .i64 8] w fun e w' => e = .returned (.int .i64 4) ∧ w' = w := fun w => by
    have := bits_any 8 ⟨by decide, by decide⟩ w; rw [known_bits] at this; exact this
  have c2 : ∀ w, Calls Try.prog 17 #[.int .i64 9223372036854775807, .int .i64 1] w fun e w' => e = .returned (.int .i64 9223372036854775807) ∧ w' = w := fun w => by
    have := add_any 9223372036854775807 1 ⟨by decide, by decide⟩ ⟨by decide, by decide⟩ w; rw [known_hi] at this; exact this
  have c3 : ∀ w, Calls Try.prog 17 #[.int .i64 (-9223372036854775808), .int .i64 (-1)] w fun e w' => e = .returned (.int .i64 (-9223372036854775808)) ∧ w' = w := fun w => by
    have := add_any (-9223372036854775808) (-1) ⟨by decide, by decide⟩ ⟨by decide, by decide⟩ w; rw [known_lo] at this; exact this
  have C1 : Hid _ := c1
  have C2 : Hid _ := c2
  have C3 : Hid _ := c3
  clear c1 c2 c3
  go_enter Try.func9, Try.ntmps9
  go_wp2_with fail
  refine (known_two w).mono ?_
  rintro e w1 ⟨rfl, hb⟩
  go_wp2_with fail
  refine (C1.out _).mono ?_
  rintro e w' ⟨rfl, rfl⟩
  go_wp2_with fail
  refine (C2.out _).mono ?_
  rintro e w' ⟨rfl, rfl⟩
  go_wp2_with fail
  refine (C3.out _).mono ?_
  rintro e w' ⟨rfl, rfl⟩
  go_wp2
  go_ret
  exact ⟨rfl, hb⟩
end Go.Proofs.Ytjjahhiaelaocaa
