/- The laws' methods, of either heap, where only how much is held counts. -/
import Derived.Test.YthfdooigljkfiaaGreatNs
import Derived.Test.YthfdooigljkfiaaGreatDw
namespace Go.Proofs.YthfdooigljkfiaaGreat
open Go.ChangeShapes Go.WideShapes Go.ChangeAt Go.RowKit
open Tr

/-- the laws' world, holding at most so many; at most so many came -/
def Sv (w0 : Fm) (w : World) (pw N K b c : Nat) : Prop := ∃ (L0 L1 : List (Nat × Int × Int)) (nx : Int), L0.length + L1.length ≤ b ∧ 0 ≤ nx ∧ nx ≤ (c : Int) ∧ Sit w0 w pw N K L0 L1 nx
section
variable {w0 : Fm} {w : World} {pw N K b c : Nat}
theorem Sv.mono {K' b' c' : Nat} (h : Sv w0 w pw N K b c) (hK : K ≤ K') (hb : b ≤ b') (hc : c ≤ c') : Sv w0 w pw N K' b' c' := by
  obtain ⟨L0, L1, nx, h1, h2, h3, h4⟩ := h
  exact ⟨L0, L1, nx, by omega, h2, by omega, h4.mono hK⟩
theorem Sv.plain {w' : World} (h : Sv w0 w pw N K b c) (k : Kept (fun _ => False) w w') : Sv w0 w' pw N K b c := by
  obtain ⟨L0, L1, nx, h1, h2, h3, h4⟩ := h
  exact ⟨L0, L1, nx, h1, h2, h3, h4.plain k⟩
theorem Sv.bel {v : World} (h : Sv (Fm.of v) w pw N K b c) : Below v.heap.size v w := by
  obtain ⟨L0, L1, nx, h1, h2, h3, h4⟩ := h
  exact h4.bel
theorem freshV (n : Int) (w : World) : Calls Tryz.prog 7 #[.int .i64 n] w fun e w' => ∃ pw, e = .returned (.pointer (some ⟨pw, 0, none⟩)) ∧ Sv (Fm.of w) w' pw (most0 n) 0 0 0 := by
  refine (freshW n w).mono ?_
  rintro e w1 ⟨pw, rfl, s1⟩
  exact ⟨pw, rfl, [], [], 0, by simp, by omega, by omega, s1⟩
theorem pushV (hh : Int) (h01 : hh = 0 ∨ hh = 1) (key : Int) (h : Sv w0 w pw N K b c) (hroom : 2 * b + 2 ≤ N) (hb : b ≤ 600) (hc : c ≤ 1000000) (hK : K ≤ 90000000) :
    Calls Tryz.prog 8 #[.pointer (some ⟨pw, 0, none⟩), .int .i64 hh, .int .i64 key] w fun e w' => e = .returned (.bool true) ∧ Sv w0 w' pw N (K + 1500) (b + 1) (c + 1) := by
  obtain ⟨L0, L1, nx, h1, h2, h3, h4⟩ := h
  rcases h01 with rfl | rfl
  · refine (push0 h4 (by omega) (by omega) ⟨h2, by omega⟩ hK key).mono ?_
    rintro e w1 ⟨rfl, j, s1⟩
    exact ⟨rfl, _, L1, _, by simp; omega, by omega, by omega, s1⟩
  · refine (push1 h4 (by omega) (by omega) ⟨h2, by omega⟩ hK key).mono ?_
    rintro e w1 ⟨rfl, j, s1⟩
    exact ⟨rfl, L0, _, _, by simp; omega, by omega, by omega, s1⟩
theorem popV (hh : Int) (h01 : hh = 0 ∨ hh = 1) (h : Sv w0 w pw N K b c) (hb : b ≤ 700) (hK : K ≤ 90000000) :
    Calls Tryz.prog 13 #[.pointer (some ⟨pw, 0, none⟩), .int .i64 hh] w fun e w' => e = .returned (.bool true) ∧ Sv w0 w' pw N (K + 1000) b c := by
  obtain ⟨L0, L1, nx, h1, h2, h3, h4⟩ := h
  rcases h01 with rfl | rfl
  · refine (pop0S h4 (by omega) hK).mono ?_
    rintro e w1 ⟨rfl, s1⟩
    exact ⟨rfl, _, L1, nx, by have := popL_le L0; omega, h2, h3, s1⟩
  · refine (pop1S h4 (by omega) hK).mono ?_
    rintro e w1 ⟨rfl, s1⟩
    exact ⟨rfl, L0, _, nx, by have := popL_le L1; omega, h2, h3, s1⟩
theorem fallV (hh at0 by0 : Int) (h01 : hh = 0 ∨ hh = 1) (hat : I64 at0) (h : Sv w0 w pw N K b c) (hb : b ≤ 700) (hK : K ≤ 90000000) :
    Calls Tryz.prog 10 #[.pointer (some ⟨pw, 0, none⟩), .int .i64 hh, .int .i64 at0, .int .i64 by0] w fun e w' => e = .returned (.bool true) ∧ Sv w0 w' pw N (K + 2000) b c := by
  obtain ⟨L0, L1, nx, h1, h2, h3, h4⟩ := h
  rcases h01 with rfl | rfl
  · refine (fall0S at0 by0 hat h4 (by omega) (by omega) hK).mono ?_
    rintro e w1 ⟨rfl, s1⟩
    exact ⟨rfl, _, L1, nx, by rw [fallL_len]; omega, h2, h3, s1⟩
  · refine (fall1S at0 by0 hat h4 (by omega) (by omega) hK).mono ?_
    rintro e w1 ⟨rfl, s1⟩
    exact ⟨rfl, L0, _, nx, by rw [fallL_len]; omega, h2, h3, s1⟩
theorem cutV (hh at0 : Int) (h01 : hh = 0 ∨ hh = 1) (hat : I64 at0) (h : Sv w0 w pw N K b c) (hb : b ≤ 700) (hK : K ≤ 90000000) :
    Calls Tryz.prog 11 #[.pointer (some ⟨pw, 0, none⟩), .int .i64 hh, .int .i64 at0] w fun e w' => e = .returned (.bool true) ∧ Sv w0 w' pw N (K + 2000) b c := by
  obtain ⟨L0, L1, nx, h1, h2, h3, h4⟩ := h
  rcases h01 with rfl | rfl
  · refine (cut0S at0 hat h4 (by omega) (by omega) hK).mono ?_
    rintro e w1 ⟨rfl, s1⟩
    exact ⟨rfl, _, L1, nx, by have := (cutL_sub (L := L0) at0).length_le; omega, h2, h3, s1⟩
  · refine (cut1S at0 hat h4 (by omega) (by omega) hK).mono ?_
    rintro e w1 ⟨rfl, s1⟩
    exact ⟨rfl, L0, _, nx, by have := (cutL_sub (L := L1) at0).length_le; omega, h2, h3, s1⟩
theorem meldV (hh : Int) (h01 : hh = 0 ∨ hh = 1) (h : Sv w0 w pw N K b c) (hb : b ≤ 700) (hK : K ≤ 90000000) :
    Calls Tryz.prog 12 #[.pointer (some ⟨pw, 0, none⟩), .int .i64 hh] w fun e w' => e = .returned (.bool true) ∧ Sv w0 w' pw N (K + 1500) b c := by
  obtain ⟨L0, L1, nx, h1, h2, h3, h4⟩ := h
  rcases h01 with rfl | rfl
  · refine (meld0 h4 (by omega) hK).mono ?_
    rintro e w1 ⟨rfl, s1⟩
    exact ⟨rfl, _, _, nx, by simp; omega, h2, h3, s1⟩
  · refine (meld1 h4 (by omega) hK).mono ?_
    rintro e w1 ⟨rfl, s1⟩
    exact ⟨rfl, _, _, nx, by simp; omega, h2, h3, s1⟩
theorem dropV (hh : Int) (h01 : hh = 0 ∨ hh = 1) (h : Sv w0 w pw N K b c) (hb : b ≤ 700) (hK : K ≤ 70000000) :
    Calls Tryz.prog 14 #[.pointer (some ⟨pw, 0, none⟩), .int .i64 hh] w fun e w' => e = .returned (.bool true) ∧ Sv w0 w' pw N (K + 50000) b c := by
  obtain ⟨L0, L1, nx, h1, h2, h3, h4⟩ := h
  rcases h01 with rfl | rfl
  · refine (drop0S h4 (by omega) hK).mono ?_
    rintro e w1 ⟨rfl, s1⟩
    exact ⟨rfl, _, _, nx, by simp; omega, h2, h3, s1⟩
  · refine (drop1S h4 (by omega) hK).mono ?_
    rintro e w1 ⟨rfl, s1⟩
    exact ⟨rfl, _, _, nx, by simp; omega, h2, h3, s1⟩
theorem rightV (h : Sv w0 w pw N K b c) (hb : b ≤ 700) (hK : K ≤ 60000000) :
    Calls Tryz.prog 9 #[.pointer (some ⟨pw, 0, none⟩)] w fun e w' => e = .returned (.bool true) ∧ Sv w0 w' pw N (K + 86000) b c := by
  obtain ⟨L0, L1, nx, h1, h2, h3, h4⟩ := h
  refine (rightS h4 (by omega) (by omega) hK).mono ?_
  rintro e w1 ⟨rfl, s1⟩
  exact ⟨rfl, L0, L1, nx, h1, h2, h3, s1⟩
end
end Go.Proofs.YthfdooigljkfiaaGreat
