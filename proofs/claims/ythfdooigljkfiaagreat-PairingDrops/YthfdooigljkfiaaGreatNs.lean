/- The laws' fall and cut, of either heap, over their lists. -/
import Derived.Test.YthfdooigljkfiaaGreatLift
import Derived.Test.YthfdooigljkfiaaGreatGi
import Derived.Test.YthfdooigljkfiaaGreatKn
import Derived.Test.YthfdooigljkfiaaGreatGl
import Derived.Test.YthfdooigljkfiaaGreatFa0
import Derived.Test.YthfdooigljkfiaaGreatDo
import Derived.Test.YthfdooigljkfiaaGreatMe
import Derived.Test.YthfdooigljkfiaaGreatMf
import Derived.Test.YthfdooigljkfiaaGreatPw
import Derived.Test.YthfdooigljkfiaaGreatFa1
import Derived.Test.YthfdooigljkfiaaGreatCu0
import Derived.Test.YthfdooigljkfiaaGreatCu1
namespace Go.Proofs.YthfdooigljkfiaaGreat
open Go.ChangeShapes Go.WideShapes Go.ChangeAt Go.RowKit
open Tr

theorem fall0S {w0 : Fm} {w : World} {pw N K : Nat} {L0 L1 : List (Nat × Int × Int)} {nx : Int} (at0 by0 : Int) (hat : I64 at0) (h : Sit w0 w pw N K L0 L1 nx) (hl : L0.length ≤ 700) (hl' : L1.length ≤ 700) (hK : K ≤ 90000000) :
    Calls Tryz.prog 10 #[.pointer (some ⟨pw, 0, none⟩), .int .i64 0, .int .i64 at0, .int .i64 by0] w fun e w' => e = .returned (.bool true) ∧ Sit w0 w' pw N (K + 2000) (fallL at0 by0 L0) L1 nx := by
  by_cases h0 : L0 = []
  · refine (fall0_none at0 by0 h h0).mono ?_
    rintro e w1 ⟨rfl, s1⟩
    subst h0
    exact ⟨rfl, by rw [fallL_nil]; exact s1.mono (by omega)⟩
  · exact fall0_some at0 by0 hat h h0 hl hl' hK
theorem fall1S {w0 : Fm} {w : World} {pw N K : Nat} {L0 L1 : List (Nat × Int × Int)} {nx : Int} (at0 by0 : Int) (hat : I64 at0) (h : Sit w0 w pw N K L0 L1 nx) (hl : L0.length ≤ 700) (hl' : L1.length ≤ 700) (hK : K ≤ 90000000) :
    Calls Tryz.prog 10 #[.pointer (some ⟨pw, 0, none⟩), .int .i64 1, .int .i64 at0, .int .i64 by0] w fun e w' => e = .returned (.bool true) ∧ Sit w0 w' pw N (K + 2000) L0 (fallL at0 by0 L1) nx := by
  by_cases h0 : L1 = []
  · refine (fall1_none at0 by0 h h0).mono ?_
    rintro e w1 ⟨rfl, s1⟩
    subst h0
    exact ⟨rfl, by rw [fallL_nil]; exact s1.mono (by omega)⟩
  · exact fall1_some at0 by0 hat h h0 hl hl' hK
theorem cut0S {w0 : Fm} {w : World} {pw N K : Nat} {L0 L1 : List (Nat × Int × Int)} {nx : Int} (at0 : Int) (hat : I64 at0) (h : Sit w0 w pw N K L0 L1 nx) (hl : L0.length ≤ 700) (hl' : L1.length ≤ 700) (hK : K ≤ 90000000) :
    Calls Tryz.prog 11 #[.pointer (some ⟨pw, 0, none⟩), .int .i64 0, .int .i64 at0] w fun e w' => e = .returned (.bool true) ∧ Sit w0 w' pw N (K + 2000) (cutL at0 L0) L1 nx := by
  by_cases h0 : L0 = []
  · refine (cut0_none at0 h h0).mono ?_
    rintro e w1 ⟨rfl, s1⟩
    subst h0
    exact ⟨rfl, by rw [cutL_nil]; exact s1.mono (by omega)⟩
  · exact cut0_some at0 hat h h0 hl hl' hK
theorem cut1S {w0 : Fm} {w : World} {pw N K : Nat} {L0 L1 : List (Nat × Int × Int)} {nx : Int} (at0 : Int) (hat : I64 at0) (h : Sit w0 w pw N K L0 L1 nx) (hl : L0.length ≤ 700) (hl' : L1.length ≤ 700) (hK : K ≤ 90000000) :
    Calls Tryz.prog 11 #[.pointer (some ⟨pw, 0, none⟩), .int .i64 1, .int .i64 at0] w fun e w' => e = .returned (.bool true) ∧ Sit w0 w' pw N (K + 2000) L0 (cutL at0 L1) nx := by
  by_cases h0 : L1 = []
  · refine (cut1_none at0 h h0).mono ?_
    rintro e w1 ⟨rfl, s1⟩
    subst h0
    exact ⟨rfl, by rw [cutL_nil]; exact s1.mono (by omega)⟩
  · exact cut1_some at0 hat h h0 hl hl' hK
theorem i64_small (n : Int) (h : -1000000 ≤ n ∧ n ≤ 1000000) : I64 n := ⟨by omega, by omega⟩
theorem cutL_len' (n : Int) {L : List (Nat × Int × Int)} {k : Nat} (h : L.length = k + 1) : (cutL n L).length = k := by
  rw [cutL_len n (fun z => by rw [z] at h; simp at h)]; omega
theorem popL_len' {L : List (Nat × Int × Int)} {k : Nat} (h : L.length = k) : (popL L).length = k - 1 := by
  by_cases z : L = []
  · subst z; simp at h; subst h; rfl
  · rw [popL_len z]; omega

end Go.Proofs.YthfdooigljkfiaaGreat
