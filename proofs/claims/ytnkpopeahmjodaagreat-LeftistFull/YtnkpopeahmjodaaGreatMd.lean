/- Several texts in one. -/
import Derived.Test.YtnkpopeahmjodaaGreatLift
import Derived.Test.YtnkpopeahmjodaaGreatFr
import Derived.Test.YtnkpopeahmjodaaGreatKn
import Derived.Test.YtnkpopeahmjodaaGreatNn
import Derived.Test.YtnkpopeahmjodaaGreatSb
import Derived.Test.YtnkpopeahmjodaaGreatMa
import Derived.Test.YtnkpopeahmjodaaGreatMc
/- The laws' fall and cut, of either heap, over their lists. -/
namespace Go.Proofs.YtnkpopeahmjodaaGreat
open Go.ChangeShapes Go.WideShapes Go.ChangeAt Go.RowKit
open Tr

theorem fall0S {w0 : Fm} {w : World} {pw N K : Nat} {L0 L1 : List (Nat × Int × Int)} {nx : Int} (at0 by0 : Int) (hat : I64 at0) (h : Sit w0 w pw N K L0 L1 nx) (hl : L0.length ≤ 700) (hl' : L1.length ≤ 700) (hK : K ≤ 90000000) :
    Calls Tryz.prog 18 #[.pointer (some ⟨pw, 0, none⟩), .int .i64 0, .int .i64 at0, .int .i64 by0] w fun e w' => e = .returned (.bool true) ∧ Sit w0 w' pw N (K + 2000) (fallL at0 by0 L0) L1 nx := by
  by_cases h0 : L0 = []
  · refine (fall0_none at0 by0 h h0).mono ?_
    rintro e w1 ⟨rfl, s1⟩
    subst h0
    exact ⟨rfl, by rw [fallL_nil]; exact s1.mono (by omega)⟩
  · exact fall0_some at0 by0 hat h h0 hl hl' hK
theorem fall1S {w0 : Fm} {w : World} {pw N K : Nat} {L0 L1 : List (Nat × Int × Int)} {nx : Int} (at0 by0 : Int) (hat : I64 at0) (h : Sit w0 w pw N K L0 L1 nx) (hl : L0.length ≤ 700) (hl' : L1.length ≤ 700) (hK : K ≤ 90000000) :
    Calls Tryz.prog 18 #[.pointer (some ⟨pw, 0, none⟩), .int .i64 1, .int .i64 at0, .int .i64 by0] w fun e w' => e = .returned (.bool true) ∧ Sit w0 w' pw N (K + 2000) L0 (fallL at0 by0 L1) nx := by
  by_cases h0 : L1 = []
  · refine (fall1_none at0 by0 h h0).mono ?_
    rintro e w1 ⟨rfl, s1⟩
    subst h0
    exact ⟨rfl, by rw [fallL_nil]; exact s1.mono (by omega)⟩
  · exact fall1_some at0 by0 hat h h0 hl hl' hK
theorem cut0S {w0 : Fm} {w : World} {pw N K : Nat} {L0 L1 : List (Nat × Int × Int)} {nx : Int} (at0 : Int) (hat : I64 at0) (h : Sit w0 w pw N K L0 L1 nx) (hl : L0.length ≤ 700) (hl' : L1.length ≤ 700) (hK : K ≤ 90000000) :
    Calls Tryz.prog 19 #[.pointer (some ⟨pw, 0, none⟩), .int .i64 0, .int .i64 at0] w fun e w' => e = .returned (.bool true) ∧ Sit w0 w' pw N (K + 2000) (cutL at0 L0) L1 nx := by
  by_cases h0 : L0 = []
  · refine (cut0_none at0 h h0).mono ?_
    rintro e w1 ⟨rfl, s1⟩
    subst h0
    exact ⟨rfl, by rw [cutL_nil]; exact s1.mono (by omega)⟩
  · exact cut0_some at0 hat h h0 hl hl' hK
theorem cut1S {w0 : Fm} {w : World} {pw N K : Nat} {L0 L1 : List (Nat × Int × Int)} {nx : Int} (at0 : Int) (hat : I64 at0) (h : Sit w0 w pw N K L0 L1 nx) (hl : L0.length ≤ 700) (hl' : L1.length ≤ 700) (hK : K ≤ 90000000) :
    Calls Tryz.prog 19 #[.pointer (some ⟨pw, 0, none⟩), .int .i64 1, .int .i64 at0] w fun e w' => e = .returned (.bool true) ∧ Sit w0 w' pw N (K + 2000) L0 (cutL at0 L1) nx := by
  by_cases h0 : L1 = []
  · refine (cut1_none at0 h h0).mono ?_
    rintro e w1 ⟨rfl, s1⟩
    subst h0
    exact ⟨rfl, by rw [cutL_nil]; exact s1.mono (by omega)⟩
  · exact cut1_some at0 hat h h0 hl hl' hK
theorem i64_small (n : Int) (h : -1000000 ≤ n ∧ n ≤ 1000000) : I64 n := ⟨by omega, by omega⟩
theorem cutL_len' (n : Int) {L : List (Nat × Int × Int)} {k : Nat} (h : L.length = k + 1) : (cutL n L).length = k := by
  rw [cutL_len n (fun z => by rw [z] at h; simp at h)]; omega
theorem popL_len' {L : List (Nat × Int × Int)} {k : Nat} (h : L.length = k) : (popL L).length = k - 1 := by
  by_cases z : L = []
  · subst z; simp at h; subst h; rfl
  · rw [popL_len z]; omega

end Go.Proofs.YtnkpopeahmjodaaGreat

/- The laws' methods, of either heap, where only how much is held counts. -/
namespace Go.Proofs.YtnkpopeahmjodaaGreat
open Go.ChangeShapes Go.WideShapes Go.ChangeAt Go.RowKit
open Tr

/-- the laws' world, holding at most so many; at most so many came -/
def Sv (w0 : Fm) (w : World) (pw N K b c : Nat) : Prop := ∃ (L0 L1 : List (Nat × Int × Int)) (nx : Int), L0.length + L1.length ≤ b ∧ 0 ≤ nx ∧ nx ≤ (c : Int) ∧ Sit w0 w pw N K L0 L1 nx
section
variable {w0 : Fm} {w : World} {pw N K b c : Nat}
theorem Sv.mono {K' b' c' : Nat} (h : Sv w0 w pw N K b c) (hK : K ≤ K') (hb : b ≤ b') (hc : c ≤ c') : Sv w0 w pw N K' b' c' := by
  obtain ⟨L0, L1, nx, h1, h2, h3, h4⟩ := h
  exact ⟨L0, L1, nx, by omega, h2, by omega, h4.mono hK⟩
theorem Sv.plain {w' : World} (h : Sv w0 w pw N K b c) (k : Kept (fun _ => False) w w') : Sv w0 w' pw N K b c := by
  obtain ⟨L0, L1, nx, h1, h2, h3, h4⟩ := h
  exact ⟨L0, L1, nx, h1, h2, h3, h4.plain k⟩
theorem Sv.bel {v : World} (h : Sv (Fm.of v) w pw N K b c) : Below v.heap.size v w := by
  obtain ⟨L0, L1, nx, h1, h2, h3, h4⟩ := h
  exact h4.bel
theorem freshV (n : Int) (w : World) : Calls Tryz.prog 9 #[.int .i64 n] w fun e w' => ∃ pw, e = .returned (.pointer (some ⟨pw, 0, none⟩)) ∧ Sv (Fm.of w) w' pw (most0 n) 0 0 0 := by
  refine (freshW n w).mono ?_
  rintro e w1 ⟨pw, rfl, s1⟩
  exact ⟨pw, rfl, [], [], 0, by simp, by omega, by omega, s1⟩
theorem pushV (hh : Int) (h01 : hh = 0 ∨ hh = 1) (key : Int) (h : Sv w0 w pw N K b c) (hroom : 2 * b + 2 ≤ N) (hb : b ≤ 600) (hc : c ≤ 1000000) (hK : K ≤ 90000000) :
    Calls Tryz.prog 14 #[.pointer (some ⟨pw, 0, none⟩), .int .i64 hh, .int .i64 key] w fun e w' => e = .returned (.bool true) ∧ Sv w0 w' pw N (K + 1500) (b + 1) (c + 1) := by
  obtain ⟨L0, L1, nx, h1, h2, h3, h4⟩ := h
  rcases h01 with rfl | rfl
  · refine (push0 h4 (by omega) (by omega) ⟨h2, by omega⟩ hK key).mono ?_
    rintro e w1 ⟨rfl, j, s1⟩
    exact ⟨rfl, _, L1, _, by simp; omega, by omega, by omega, s1⟩
  · refine (push1 h4 (by omega) (by omega) ⟨h2, by omega⟩ hK key).mono ?_
    rintro e w1 ⟨rfl, j, s1⟩
    exact ⟨rfl, L0, _, _, by simp; omega, by omega, by omega, s1⟩
theorem popV (hh : Int) (h01 : hh = 0 ∨ hh = 1) (h : Sv w0 w pw N K b c) (hb : b ≤ 700) (hK : K ≤ 90000000) :
    Calls Tryz.prog 15 #[.pointer (some ⟨pw, 0, none⟩), .int .i64 hh] w fun e w' => e = .returned (.bool true) ∧ Sv w0 w' pw N (K + 1000) b c := by
  obtain ⟨L0, L1, nx, h1, h2, h3, h4⟩ := h
  rcases h01 with rfl | rfl
  · refine (pop0S h4 (by omega) hK).mono ?_
    rintro e w1 ⟨rfl, s1⟩
    exact ⟨rfl, _, L1, nx, by have := popL_le L0; omega, h2, h3, s1⟩
  · refine (pop1S h4 (by omega) hK).mono ?_
    rintro e w1 ⟨rfl, s1⟩
    exact ⟨rfl, L0, _, nx, by have := popL_le L1; omega, h2, h3, s1⟩
theorem fallV (hh at0 by0 : Int) (h01 : hh = 0 ∨ hh = 1) (hat : I64 at0) (h : Sv w0 w pw N K b c) (hb : b ≤ 700) (hK : K ≤ 90000000) :
    Calls Tryz.prog 18 #[.pointer (some ⟨pw, 0, none⟩), .int .i64 hh, .int .i64 at0, .int .i64 by0] w fun e w' => e = .returned (.bool true) ∧ Sv w0 w' pw N (K + 2000) b c := by
  obtain ⟨L0, L1, nx, h1, h2, h3, h4⟩ := h
  rcases h01 with rfl | rfl
  · refine (fall0S at0 by0 hat h4 (by omega) (by omega) hK).mono ?_
    rintro e w1 ⟨rfl, s1⟩
    exact ⟨rfl, _, L1, nx, by rw [fallL_len]; omega, h2, h3, s1⟩
  · refine (fall1S at0 by0 hat h4 (by omega) (by omega) hK).mono ?_
    rintro e w1 ⟨rfl, s1⟩
    exact ⟨rfl, L0, _, nx, by rw [fallL_len]; omega, h2, h3, s1⟩
theorem cutV (hh at0 : Int) (h01 : hh = 0 ∨ hh = 1) (hat : I64 at0) (h : Sv w0 w pw N K b c) (hb : b ≤ 700) (hK : K ≤ 90000000) :
    Calls Tryz.prog 19 #[.pointer (some ⟨pw, 0, none⟩), .int .i64 hh, .int .i64 at0] w fun e w' => e = .returned (.bool true) ∧ Sv w0 w' pw N (K + 2000) b c := by
  obtain ⟨L0, L1, nx, h1, h2, h3, h4⟩ := h
  rcases h01 with rfl | rfl
  · refine (cut0S at0 hat h4 (by omega) (by omega) hK).mono ?_
    rintro e w1 ⟨rfl, s1⟩
    exact ⟨rfl, _, L1, nx, by have := (cutL_sub (L := L0) at0).length_le; omega, h2, h3, s1⟩
  · refine (cut1S at0 hat h4 (by omega) (by omega) hK).mono ?_
    rintro e w1 ⟨rfl, s1⟩
    exact ⟨rfl, L0, _, nx, by have := (cutL_sub (L := L1) at0).length_le; omega, h2, h3, s1⟩
theorem meldV (hh : Int) (h01 : hh = 0 ∨ hh = 1) (h : Sv w0 w pw N K b c) (hb : b ≤ 700) (hK : K ≤ 90000000) :
    Calls Tryz.prog 20 #[.pointer (some ⟨pw, 0, none⟩), .int .i64 hh] w fun e w' => e = .returned (.bool true) ∧ Sv w0 w' pw N (K + 1500) b c := by
  obtain ⟨L0, L1, nx, h1, h2, h3, h4⟩ := h
  rcases h01 with rfl | rfl
  · refine (meld0 h4 (by omega) hK).mono ?_
    rintro e w1 ⟨rfl, s1⟩
    exact ⟨rfl, _, _, nx, by simp; omega, h2, h3, s1⟩
  · refine (meld1 h4 (by omega) hK).mono ?_
    rintro e w1 ⟨rfl, s1⟩
    exact ⟨rfl, _, _, nx, by simp; omega, h2, h3, s1⟩
theorem dropV (hh : Int) (h01 : hh = 0 ∨ hh = 1) (h : Sv w0 w pw N K b c) (hb : b ≤ 700) (hK : K ≤ 70000000) :
    Calls Tryz.prog 11 #[.pointer (some ⟨pw, 0, none⟩), .int .i64 hh] w fun e w' => e = .returned (.bool true) ∧ Sv w0 w' pw N (K + 10000) b c := by
  obtain ⟨L0, L1, nx, h1, h2, h3, h4⟩ := h
  rcases h01 with rfl | rfl
  · refine (drop0S h4 (by omega) hK).mono ?_
    rintro e w1 ⟨rfl, s1⟩
    exact ⟨rfl, _, _, nx, by simp; omega, h2, h3, s1⟩
  · refine (drop1S h4 (by omega) hK).mono ?_
    rintro e w1 ⟨rfl, s1⟩
    exact ⟨rfl, _, _, nx, by simp; omega, h2, h3, s1⟩
theorem rightV (h : Sv w0 w pw N K b c) (hb : b ≤ 700) (hK : K ≤ 60000000) :
    Calls Tryz.prog 12 #[.pointer (some ⟨pw, 0, none⟩)] w fun e w' => e = .returned (.bool true) ∧ Sv w0 w' pw N (K + 30000) b c := by
  obtain ⟨L0, L1, nx, h1, h2, h3, h4⟩ := h
  refine (rightS h4 (by omega) (by omega) hK).mono ?_
  rintro e w1 ⟨rfl, s1⟩
  exact ⟨rfl, L0, L1, nx, h1, h2, h3, s1⟩
end
end Go.Proofs.YtnkpopeahmjodaaGreat

/- The laws' do: one call, whichever. -/
namespace Go.Proofs.YtnkpopeahmjodaaGreat
open Go.ChangeShapes Go.WideShapes Go.ChangeAt Go.RowKit
open Tr

section
variable {w0 : Fm} {w : World} {pw N K b c : Nat}
set_option maxHeartbeats 1000000 in
theorem do_pop5_true (q : Ask) (hq : askI q) (h : Sv w0 w pw N K b c) (hb : b ≤ 600) (hK : K ≤ 60000000) (hm : (q.i.tmod 3 != 0) = true) (hk0 : (q.kind == 5) = true) (hk1 : (q.kind == 6) = false) (hk2 : (q.kind == 7) = false) (hk3 : (q.kind == 8) = false) (hk4 : (q.kind == 9) = false) (hk5 : (q.kind == 10) = false) (hk6 : (q.kind == 11) = false) :
    Calls Tryz.prog 10 #[.pointer (some ⟨pw, 0, none⟩), .agg #[.int .i64 q.kind, .int .i64 q.h, .int .i64 q.i, .int .i64 q.key]] w fun e w' => e = .returned (.bool true) ∧ Sv w0 w' pw N (K + 10000) (b + 1) (c + 1) := by
  obtain ⟨kd, qh, qi, qk⟩ := q
  obtain ⟨i1, i2, i3, i4⟩ := hq
  simp only at i1 i2 i3 i4 hm hk0 hk1 hk2 hk3 hk4 hk5 hk6 ⊢
  have H := hid h
  have WI := hid (within_eq qh i2 1 (by decide) (by decide))
  have h01 := winI_le qh 0 1 (by decide)
  have H01 : Hid (winI qh 0 1 = 0 ∨ winI qh 0 1 = 1) := hid (by omega)
  generalize winI qh 0 1 = hh at WI H01
  have I3 := hid i3
  clear h h01 i1 i2 i3 i4
  go_enter Tryz.func10, Tryz.ntmps10
  go_wp2_with fail
  refine (WI.out _).mono ?_
  rintro e w1 ⟨rfl, rfl⟩
  go_wp2_with fail
  refine (popV _ H01.out (H.out.plain ((Kept.refl _ _).alloc _)) (by omega) (by omega)).mono ?_
  rintro e w2 ⟨rfl, s2⟩
  have S2 := hid s2
  clear s2
  go_wp2
  go_ret
  exact ⟨rfl, S2.out.mono (by omega) (by omega) (by omega)⟩
set_option maxHeartbeats 1000000 in
theorem do_pop5_false (q : Ask) (hq : askI q) (h : Sv w0 w pw N K b c) (hb : b ≤ 600) (hK : K ≤ 60000000) (hm : (q.i.tmod 3 != 0) = false) (hk0 : (q.kind == 5) = true) (hk1 : (q.kind == 6) = false) (hk2 : (q.kind == 7) = false) (hk3 : (q.kind == 8) = false) (hk4 : (q.kind == 9) = false) (hk5 : (q.kind == 10) = false) (hk6 : (q.kind == 11) = false) :
    Calls Tryz.prog 10 #[.pointer (some ⟨pw, 0, none⟩), .agg #[.int .i64 q.kind, .int .i64 q.h, .int .i64 q.i, .int .i64 q.key]] w fun e w' => e = .returned (.bool true) ∧ Sv w0 w' pw N (K + 10000) (b + 1) (c + 1) := by
  obtain ⟨kd, qh, qi, qk⟩ := q
  obtain ⟨i1, i2, i3, i4⟩ := hq
  simp only at i1 i2 i3 i4 hm hk0 hk1 hk2 hk3 hk4 hk5 hk6 ⊢
  have H := hid h
  have WI := hid (within_eq qh i2 1 (by decide) (by decide))
  have h01 := winI_le qh 0 1 (by decide)
  have H01 : Hid (winI qh 0 1 = 0 ∨ winI qh 0 1 = 1) := hid (by omega)
  generalize winI qh 0 1 = hh at WI H01
  have I3 := hid i3
  clear h h01 i1 i2 i3 i4
  go_enter Tryz.func10, Tryz.ntmps10
  go_wp2_with fail
  refine (WI.out _).mono ?_
  rintro e w1 ⟨rfl, rfl⟩
  go_wp2_with fail
  refine (popV _ H01.out (H.out.plain ((Kept.refl _ _).alloc _)) (by omega) (by omega)).mono ?_
  rintro e w2 ⟨rfl, s2⟩
  have S2 := hid s2
  clear s2
  go_wp2
  go_ret
  exact ⟨rfl, S2.out.mono (by omega) (by omega) (by omega)⟩
set_option maxHeartbeats 1000000 in
theorem do_pop6_true (q : Ask) (hq : askI q) (h : Sv w0 w pw N K b c) (hb : b ≤ 600) (hK : K ≤ 60000000) (hm : (q.i.tmod 3 != 0) = true) (hk0 : (q.kind == 5) = false) (hk1 : (q.kind == 6) = true) (hk2 : (q.kind == 7) = false) (hk3 : (q.kind == 8) = false) (hk4 : (q.kind == 9) = false) (hk5 : (q.kind == 10) = false) (hk6 : (q.kind == 11) = false) :
    Calls Tryz.prog 10 #[.pointer (some ⟨pw, 0, none⟩), .agg #[.int .i64 q.kind, .int .i64 q.h, .int .i64 q.i, .int .i64 q.key]] w fun e w' => e = .returned (.bool true) ∧ Sv w0 w' pw N (K + 10000) (b + 1) (c + 1) := by
  obtain ⟨kd, qh, qi, qk⟩ := q
  obtain ⟨i1, i2, i3, i4⟩ := hq
  simp only at i1 i2 i3 i4 hm hk0 hk1 hk2 hk3 hk4 hk5 hk6 ⊢
  have H := hid h
  have WI := hid (within_eq qh i2 1 (by decide) (by decide))
  have h01 := winI_le qh 0 1 (by decide)
  have H01 : Hid (winI qh 0 1 = 0 ∨ winI qh 0 1 = 1) := hid (by omega)
  generalize winI qh 0 1 = hh at WI H01
  have I3 := hid i3
  clear h h01 i1 i2 i3 i4
  go_enter Tryz.func10, Tryz.ntmps10
  go_wp2_with fail
  refine (WI.out _).mono ?_
  rintro e w1 ⟨rfl, rfl⟩
  go_wp2_with fail
  refine (popV _ H01.out (H.out.plain ((Kept.refl _ _).alloc _)) (by omega) (by omega)).mono ?_
  rintro e w2 ⟨rfl, s2⟩
  have S2 := hid s2
  clear s2
  go_wp2
  go_ret
  exact ⟨rfl, S2.out.mono (by omega) (by omega) (by omega)⟩
set_option maxHeartbeats 1000000 in
theorem do_pop6_false (q : Ask) (hq : askI q) (h : Sv w0 w pw N K b c) (hb : b ≤ 600) (hK : K ≤ 60000000) (hm : (q.i.tmod 3 != 0) = false) (hk0 : (q.kind == 5) = false) (hk1 : (q.kind == 6) = true) (hk2 : (q.kind == 7) = false) (hk3 : (q.kind == 8) = false) (hk4 : (q.kind == 9) = false) (hk5 : (q.kind == 10) = false) (hk6 : (q.kind == 11) = false) :
    Calls Tryz.prog 10 #[.pointer (some ⟨pw, 0, none⟩), .agg #[.int .i64 q.kind, .int .i64 q.h, .int .i64 q.i, .int .i64 q.key]] w fun e w' => e = .returned (.bool true) ∧ Sv w0 w' pw N (K + 10000) (b + 1) (c + 1) := by
  obtain ⟨kd, qh, qi, qk⟩ := q
  obtain ⟨i1, i2, i3, i4⟩ := hq
  simp only at i1 i2 i3 i4 hm hk0 hk1 hk2 hk3 hk4 hk5 hk6 ⊢
  have H := hid h
  have WI := hid (within_eq qh i2 1 (by decide) (by decide))
  have h01 := winI_le qh 0 1 (by decide)
  have H01 : Hid (winI qh 0 1 = 0 ∨ winI qh 0 1 = 1) := hid (by omega)
  generalize winI qh 0 1 = hh at WI H01
  have I3 := hid i3
  clear h h01 i1 i2 i3 i4
  go_enter Tryz.func10, Tryz.ntmps10
  go_wp2_with fail
  refine (WI.out _).mono ?_
  rintro e w1 ⟨rfl, rfl⟩
  go_wp2_with fail
  refine (popV _ H01.out (H.out.plain ((Kept.refl _ _).alloc _)) (by omega) (by omega)).mono ?_
  rintro e w2 ⟨rfl, s2⟩
  have S2 := hid s2
  clear s2
  go_wp2
  go_ret
  exact ⟨rfl, S2.out.mono (by omega) (by omega) (by omega)⟩
set_option maxHeartbeats 1000000 in
theorem do_fall7_true (q : Ask) (hq : askI q) (h : Sv w0 w pw N K b c) (hb : b ≤ 600) (hK : K ≤ 60000000) (hm : (q.i.tmod 3 != 0) = true) (hk0 : (q.kind == 5) = false) (hk1 : (q.kind == 6) = false) (hk2 : (q.kind == 7) = true) (hk3 : (q.kind == 8) = false) (hk4 : (q.kind == 9) = false) (hk5 : (q.kind == 10) = false) (hk6 : (q.kind == 11) = false) :
    Calls Tryz.prog 10 #[.pointer (some ⟨pw, 0, none⟩), .agg #[.int .i64 q.kind, .int .i64 q.h, .int .i64 q.i, .int .i64 q.key]] w fun e w' => e = .returned (.bool true) ∧ Sv w0 w' pw N (K + 10000) (b + 1) (c + 1) := by
  obtain ⟨kd, qh, qi, qk⟩ := q
  obtain ⟨i1, i2, i3, i4⟩ := hq
  simp only at i1 i2 i3 i4 hm hk0 hk1 hk2 hk3 hk4 hk5 hk6 ⊢
  have H := hid h
  have WI := hid (within_eq qh i2 1 (by decide) (by decide))
  have h01 := winI_le qh 0 1 (by decide)
  have H01 : Hid (winI qh 0 1 = 0 ∨ winI qh 0 1 = 1) := hid (by omega)
  generalize winI qh 0 1 = hh at WI H01
  have I3 := hid i3
  clear h h01 i1 i2 i3 i4
  go_enter Tryz.func10, Tryz.ntmps10
  go_wp2_with fail
  refine (WI.out _).mono ?_
  rintro e w1 ⟨rfl, rfl⟩
  go_wp2_with fail
  refine (fallV _ _ _ H01.out I3.out (H.out.plain ((Kept.refl _ _).alloc _)) (by omega) (by omega)).mono ?_
  rintro e w2 ⟨rfl, s2⟩
  have S2 := hid s2
  clear s2
  go_wp2
  go_ret
  exact ⟨rfl, S2.out.mono (by omega) (by omega) (by omega)⟩
set_option maxHeartbeats 1000000 in
theorem do_fall7_false (q : Ask) (hq : askI q) (h : Sv w0 w pw N K b c) (hb : b ≤ 600) (hK : K ≤ 60000000) (hm : (q.i.tmod 3 != 0) = false) (hk0 : (q.kind == 5) = false) (hk1 : (q.kind == 6) = false) (hk2 : (q.kind == 7) = true) (hk3 : (q.kind == 8) = false) (hk4 : (q.kind == 9) = false) (hk5 : (q.kind == 10) = false) (hk6 : (q.kind == 11) = false) :
    Calls Tryz.prog 10 #[.pointer (some ⟨pw, 0, none⟩), .agg #[.int .i64 q.kind, .int .i64 q.h, .int .i64 q.i, .int .i64 q.key]] w fun e w' => e = .returned (.bool true) ∧ Sv w0 w' pw N (K + 10000) (b + 1) (c + 1) := by
  obtain ⟨kd, qh, qi, qk⟩ := q
  obtain ⟨i1, i2, i3, i4⟩ := hq
  simp only at i1 i2 i3 i4 hm hk0 hk1 hk2 hk3 hk4 hk5 hk6 ⊢
  have H := hid h
  have WI := hid (within_eq qh i2 1 (by decide) (by decide))
  have h01 := winI_le qh 0 1 (by decide)
  have H01 : Hid (winI qh 0 1 = 0 ∨ winI qh 0 1 = 1) := hid (by omega)
  generalize winI qh 0 1 = hh at WI H01
  have I3 := hid i3
  clear h h01 i1 i2 i3 i4
  go_enter Tryz.func10, Tryz.ntmps10
  go_wp2_with fail
  refine (WI.out _).mono ?_
  rintro e w1 ⟨rfl, rfl⟩
  go_wp2_with fail
  refine (fallV _ _ _ H01.out I3.out (H.out.plain ((Kept.refl _ _).alloc _)) (by omega) (by omega)).mono ?_
  rintro e w2 ⟨rfl, s2⟩
  have S2 := hid s2
  clear s2
  go_wp2
  go_ret
  exact ⟨rfl, S2.out.mono (by omega) (by omega) (by omega)⟩
set_option maxHeartbeats 1000000 in
theorem do_fall8_true (q : Ask) (hq : askI q) (h : Sv w0 w pw N K b c) (hb : b ≤ 600) (hK : K ≤ 60000000) (hm : (q.i.tmod 3 != 0) = true) (hk0 : (q.kind == 5) = false) (hk1 : (q.kind == 6) = false) (hk2 : (q.kind == 7) = false) (hk3 : (q.kind == 8) = true) (hk4 : (q.kind == 9) = false) (hk5 : (q.kind == 10) = false) (hk6 : (q.kind == 11) = false) :
    Calls Tryz.prog 10 #[.pointer (some ⟨pw, 0, none⟩), .agg #[.int .i64 q.kind, .int .i64 q.h, .int .i64 q.i, .int .i64 q.key]] w fun e w' => e = .returned (.bool true) ∧ Sv w0 w' pw N (K + 10000) (b + 1) (c + 1) := by
  obtain ⟨kd, qh, qi, qk⟩ := q
  obtain ⟨i1, i2, i3, i4⟩ := hq
  simp only at i1 i2 i3 i4 hm hk0 hk1 hk2 hk3 hk4 hk5 hk6 ⊢
  have H := hid h
  have WI := hid (within_eq qh i2 1 (by decide) (by decide))
  have h01 := winI_le qh 0 1 (by decide)
  have H01 : Hid (winI qh 0 1 = 0 ∨ winI qh 0 1 = 1) := hid (by omega)
  generalize winI qh 0 1 = hh at WI H01
  have I3 := hid i3
  clear h h01 i1 i2 i3 i4
  go_enter Tryz.func10, Tryz.ntmps10
  go_wp2_with fail
  refine (WI.out _).mono ?_
  rintro e w1 ⟨rfl, rfl⟩
  go_wp2_with fail
  refine (fallV _ _ _ H01.out I3.out (H.out.plain ((Kept.refl _ _).alloc _)) (by omega) (by omega)).mono ?_
  rintro e w2 ⟨rfl, s2⟩
  have S2 := hid s2
  clear s2
  go_wp2
  go_ret
  exact ⟨rfl, S2.out.mono (by omega) (by omega) (by omega)⟩
set_option maxHeartbeats 1000000 in
theorem do_fall8_false (q : Ask) (hq : askI q) (h : Sv w0 w pw N K b c) (hb : b ≤ 600) (hK : K ≤ 60000000) (hm : (q.i.tmod 3 != 0) = false) (hk0 : (q.kind == 5) = false) (hk1 : (q.kind == 6) = false) (hk2 : (q.kind == 7) = false) (hk3 : (q.kind == 8) = true) (hk4 : (q.kind == 9) = false) (hk5 : (q.kind == 10) = false) (hk6 : (q.kind == 11) = false) :
    Calls Tryz.prog 10 #[.pointer (some ⟨pw, 0, none⟩), .agg #[.int .i64 q.kind, .int .i64 q.h, .int .i64 q.i, .int .i64 q.key]] w fun e w' => e = .returned (.bool true) ∧ Sv w0 w' pw N (K + 10000) (b + 1) (c + 1) := by
  obtain ⟨kd, qh, qi, qk⟩ := q
  obtain ⟨i1, i2, i3, i4⟩ := hq
  simp only at i1 i2 i3 i4 hm hk0 hk1 hk2 hk3 hk4 hk5 hk6 ⊢
  have H := hid h
  have WI := hid (within_eq qh i2 1 (by decide) (by decide))
  have h01 := winI_le qh 0 1 (by decide)
  have H01 : Hid (winI qh 0 1 = 0 ∨ winI qh 0 1 = 1) := hid (by omega)
  generalize winI qh 0 1 = hh at WI H01
  have I3 := hid i3
  clear h h01 i1 i2 i3 i4
  go_enter Tryz.func10, Tryz.ntmps10
  go_wp2_with fail
  refine (WI.out _).mono ?_
  rintro e w1 ⟨rfl, rfl⟩
  go_wp2_with fail
  refine (fallV _ _ _ H01.out I3.out (H.out.plain ((Kept.refl _ _).alloc _)) (by omega) (by omega)).mono ?_
  rintro e w2 ⟨rfl, s2⟩
  have S2 := hid s2
  clear s2
  go_wp2
  go_ret
  exact ⟨rfl, S2.out.mono (by omega) (by omega) (by omega)⟩
set_option maxHeartbeats 1000000 in
theorem do_cut9_true (q : Ask) (hq : askI q) (h : Sv w0 w pw N K b c) (hb : b ≤ 600) (hK : K ≤ 60000000) (hm : (q.i.tmod 3 != 0) = true) (hk0 : (q.kind == 5) = false) (hk1 : (q.kind == 6) = false) (hk2 : (q.kind == 7) = false) (hk3 : (q.kind == 8) = false) (hk4 : (q.kind == 9) = true) (hk5 : (q.kind == 10) = false) (hk6 : (q.kind == 11) = false) :
    Calls Tryz.prog 10 #[.pointer (some ⟨pw, 0, none⟩), .agg #[.int .i64 q.kind, .int .i64 q.h, .int .i64 q.i, .int .i64 q.key]] w fun e w' => e = .returned (.bool true) ∧ Sv w0 w' pw N (K + 10000) (b + 1) (c + 1) := by
  obtain ⟨kd, qh, qi, qk⟩ := q
  obtain ⟨i1, i2, i3, i4⟩ := hq
  simp only at i1 i2 i3 i4 hm hk0 hk1 hk2 hk3 hk4 hk5 hk6 ⊢
  have H := hid h
  have WI := hid (within_eq qh i2 1 (by decide) (by decide))
  have h01 := winI_le qh 0 1 (by decide)
  have H01 : Hid (winI qh 0 1 = 0 ∨ winI qh 0 1 = 1) := hid (by omega)
  generalize winI qh 0 1 = hh at WI H01
  have I3 := hid i3
  clear h h01 i1 i2 i3 i4
  go_enter Tryz.func10, Tryz.ntmps10
  go_wp2_with fail
  refine (WI.out _).mono ?_
  rintro e w1 ⟨rfl, rfl⟩
  go_wp2_with fail
  refine (cutV _ _ H01.out I3.out (H.out.plain ((Kept.refl _ _).alloc _)) (by omega) (by omega)).mono ?_
  rintro e w2 ⟨rfl, s2⟩
  have S2 := hid s2
  clear s2
  go_wp2
  go_ret
  exact ⟨rfl, S2.out.mono (by omega) (by omega) (by omega)⟩
set_option maxHeartbeats 1000000 in
theorem do_cut9_false (q : Ask) (hq : askI q) (h : Sv w0 w pw N K b c) (hb : b ≤ 600) (hK : K ≤ 60000000) (hm : (q.i.tmod 3 != 0) = false) (hk0 : (q.kind == 5) = false) (hk1 : (q.kind == 6) = false) (hk2 : (q.kind == 7) = false) (hk3 : (q.kind == 8) = false) (hk4 : (q.kind == 9) = true) (hk5 : (q.kind == 10) = false) (hk6 : (q.kind == 11) = false) :
    Calls Tryz.prog 10 #[.pointer (some ⟨pw, 0, none⟩), .agg #[.int .i64 q.kind, .int .i64 q.h, .int .i64 q.i, .int .i64 q.key]] w fun e w' => e = .returned (.bool true) ∧ Sv w0 w' pw N (K + 10000) (b + 1) (c + 1) := by
  obtain ⟨kd, qh, qi, qk⟩ := q
  obtain ⟨i1, i2, i3, i4⟩ := hq
  simp only at i1 i2 i3 i4 hm hk0 hk1 hk2 hk3 hk4 hk5 hk6 ⊢
  have H := hid h
  have WI := hid (within_eq qh i2 1 (by decide) (by decide))
  have h01 := winI_le qh 0 1 (by decide)
  have H01 : Hid (winI qh 0 1 = 0 ∨ winI qh 0 1 = 1) := hid (by omega)
  generalize winI qh 0 1 = hh at WI H01
  have I3 := hid i3
  clear h h01 i1 i2 i3 i4
  go_enter Tryz.func10, Tryz.ntmps10
  go_wp2_with fail
  refine (WI.out _).mono ?_
  rintro e w1 ⟨rfl, rfl⟩
  go_wp2_with fail
  refine (cutV _ _ H01.out I3.out (H.out.plain ((Kept.refl _ _).alloc _)) (by omega) (by omega)).mono ?_
  rintro e w2 ⟨rfl, s2⟩
  have S2 := hid s2
  clear s2
  go_wp2
  go_ret
  exact ⟨rfl, S2.out.mono (by omega) (by omega) (by omega)⟩
set_option maxHeartbeats 1000000 in
theorem do_meld10_true (q : Ask) (hq : askI q) (h : Sv w0 w pw N K b c) (hb : b ≤ 600) (hK : K ≤ 60000000) (hm : (q.i.tmod 3 != 0) = true) (hk0 : (q.kind == 5) = false) (hk1 : (q.kind == 6) = false) (hk2 : (q.kind == 7) = false) (hk3 : (q.kind == 8) = false) (hk4 : (q.kind == 9) = false) (hk5 : (q.kind == 10) = true) (hk6 : (q.kind == 11) = false) :
    Calls Tryz.prog 10 #[.pointer (some ⟨pw, 0, none⟩), .agg #[.int .i64 q.kind, .int .i64 q.h, .int .i64 q.i, .int .i64 q.key]] w fun e w' => e = .returned (.bool true) ∧ Sv w0 w' pw N (K + 10000) (b + 1) (c + 1) := by
  obtain ⟨kd, qh, qi, qk⟩ := q
  obtain ⟨i1, i2, i3, i4⟩ := hq
  simp only at i1 i2 i3 i4 hm hk0 hk1 hk2 hk3 hk4 hk5 hk6 ⊢
  have H := hid h
  have WI := hid (within_eq qh i2 1 (by decide) (by decide))
  have h01 := winI_le qh 0 1 (by decide)
  have H01 : Hid (winI qh 0 1 = 0 ∨ winI qh 0 1 = 1) := hid (by omega)
  generalize winI qh 0 1 = hh at WI H01
  have I3 := hid i3
  clear h h01 i1 i2 i3 i4
  go_enter Tryz.func10, Tryz.ntmps10
  go_wp2_with fail
  refine (WI.out _).mono ?_
  rintro e w1 ⟨rfl, rfl⟩
  go_wp2_with fail
  refine (meldV _ H01.out (H.out.plain ((Kept.refl _ _).alloc _)) (by omega) (by omega)).mono ?_
  rintro e w2 ⟨rfl, s2⟩
  have S2 := hid s2
  clear s2
  go_wp2
  go_ret
  exact ⟨rfl, S2.out.mono (by omega) (by omega) (by omega)⟩
set_option maxHeartbeats 1000000 in
theorem do_meld10_false (q : Ask) (hq : askI q) (h : Sv w0 w pw N K b c) (hb : b ≤ 600) (hK : K ≤ 60000000) (hm : (q.i.tmod 3 != 0) = false) (hk0 : (q.kind == 5) = false) (hk1 : (q.kind == 6) = false) (hk2 : (q.kind == 7) = false) (hk3 : (q.kind == 8) = false) (hk4 : (q.kind == 9) = false) (hk5 : (q.kind == 10) = true) (hk6 : (q.kind == 11) = false) :
    Calls Tryz.prog 10 #[.pointer (some ⟨pw, 0, none⟩), .agg #[.int .i64 q.kind, .int .i64 q.h, .int .i64 q.i, .int .i64 q.key]] w fun e w' => e = .returned (.bool true) ∧ Sv w0 w' pw N (K + 10000) (b + 1) (c + 1) := by
  obtain ⟨kd, qh, qi, qk⟩ := q
  obtain ⟨i1, i2, i3, i4⟩ := hq
  simp only at i1 i2 i3 i4 hm hk0 hk1 hk2 hk3 hk4 hk5 hk6 ⊢
  have H := hid h
  have WI := hid (within_eq qh i2 1 (by decide) (by decide))
  have h01 := winI_le qh 0 1 (by decide)
  have H01 : Hid (winI qh 0 1 = 0 ∨ winI qh 0 1 = 1) := hid (by omega)
  generalize winI qh 0 1 = hh at WI H01
  have I3 := hid i3
  clear h h01 i1 i2 i3 i4
  go_enter Tryz.func10, Tryz.ntmps10
  go_wp2_with fail
  refine (WI.out _).mono ?_
  rintro e w1 ⟨rfl, rfl⟩
  go_wp2_with fail
  refine (meldV _ H01.out (H.out.plain ((Kept.refl _ _).alloc _)) (by omega) (by omega)).mono ?_
  rintro e w2 ⟨rfl, s2⟩
  have S2 := hid s2
  clear s2
  go_wp2
  go_ret
  exact ⟨rfl, S2.out.mono (by omega) (by omega) (by omega)⟩
set_option maxHeartbeats 1000000 in
theorem do_drop11_true (q : Ask) (hq : askI q) (h : Sv w0 w pw N K b c) (hb : b ≤ 600) (hK : K ≤ 60000000) (hx : (q.i.tmod 4 != 0) = false) (hm : (q.i.tmod 3 != 0) = true) (hk0 : (q.kind == 5) = false) (hk1 : (q.kind == 6) = false) (hk2 : (q.kind == 7) = false) (hk3 : (q.kind == 8) = false) (hk4 : (q.kind == 9) = false) (hk5 : (q.kind == 10) = false) (hk6 : (q.kind == 11) = true) :
    Calls Tryz.prog 10 #[.pointer (some ⟨pw, 0, none⟩), .agg #[.int .i64 q.kind, .int .i64 q.h, .int .i64 q.i, .int .i64 q.key]] w fun e w' => e = .returned (.bool true) ∧ Sv w0 w' pw N (K + 10000) (b + 1) (c + 1) := by
  obtain ⟨kd, qh, qi, qk⟩ := q
  obtain ⟨i1, i2, i3, i4⟩ := hq
  simp only at i1 i2 i3 i4 hm hk0 hk1 hk2 hk3 hk4 hk5 hk6 hx ⊢
  have H := hid h
  have WI := hid (within_eq qh i2 1 (by decide) (by decide))
  have h01 := winI_le qh 0 1 (by decide)
  have H01 : Hid (winI qh 0 1 = 0 ∨ winI qh 0 1 = 1) := hid (by omega)
  generalize winI qh 0 1 = hh at WI H01
  have I3 := hid i3
  clear h h01 i1 i2 i3 i4
  go_enter Tryz.func10, Tryz.ntmps10
  go_wp2_with fail
  refine (WI.out _).mono ?_
  rintro e w1 ⟨rfl, rfl⟩
  go_wp2_with fail
  refine (dropV _ H01.out (H.out.plain ((Kept.refl _ _).alloc _)) (by omega) (by omega)).mono ?_
  rintro e w2 ⟨rfl, s2⟩
  have S2 := hid s2
  clear s2
  go_wp2
  go_ret
  exact ⟨rfl, S2.out.mono (by omega) (by omega) (by omega)⟩
set_option maxHeartbeats 1000000 in
theorem do_drop11_false (q : Ask) (hq : askI q) (h : Sv w0 w pw N K b c) (hb : b ≤ 600) (hK : K ≤ 60000000) (hx : (q.i.tmod 4 != 0) = false) (hm : (q.i.tmod 3 != 0) = false) (hk0 : (q.kind == 5) = false) (hk1 : (q.kind == 6) = false) (hk2 : (q.kind == 7) = false) (hk3 : (q.kind == 8) = false) (hk4 : (q.kind == 9) = false) (hk5 : (q.kind == 10) = false) (hk6 : (q.kind == 11) = true) :
    Calls Tryz.prog 10 #[.pointer (some ⟨pw, 0, none⟩), .agg #[.int .i64 q.kind, .int .i64 q.h, .int .i64 q.i, .int .i64 q.key]] w fun e w' => e = .returned (.bool true) ∧ Sv w0 w' pw N (K + 10000) (b + 1) (c + 1) := by
  obtain ⟨kd, qh, qi, qk⟩ := q
  obtain ⟨i1, i2, i3, i4⟩ := hq
  simp only at i1 i2 i3 i4 hm hk0 hk1 hk2 hk3 hk4 hk5 hk6 hx ⊢
  have H := hid h
  have WI := hid (within_eq qh i2 1 (by decide) (by decide))
  have h01 := winI_le qh 0 1 (by decide)
  have H01 : Hid (winI qh 0 1 = 0 ∨ winI qh 0 1 = 1) := hid (by omega)
  generalize winI qh 0 1 = hh at WI H01
  have I3 := hid i3
  clear h h01 i1 i2 i3 i4
  go_enter Tryz.func10, Tryz.ntmps10
  go_wp2_with fail
  refine (WI.out _).mono ?_
  rintro e w1 ⟨rfl, rfl⟩
  go_wp2_with fail
  refine (dropV _ H01.out (H.out.plain ((Kept.refl _ _).alloc _)) (by omega) (by omega)).mono ?_
  rintro e w2 ⟨rfl, s2⟩
  have S2 := hid s2
  clear s2
  go_wp2
  go_ret
  exact ⟨rfl, S2.out.mono (by omega) (by omega) (by omega)⟩
set_option maxHeartbeats 1000000 in
theorem do_push_true (q : Ask) (hq : askI q) (h : Sv w0 w pw N K b c) (hb : b ≤ 600) (hK : K ≤ 60000000) (hr : 2 * b + 2 ≤ N) (hc : c ≤ 1000000) (hm : (q.i.tmod 3 != 0) = true) (hk0 : (q.kind == 5) = false) (hk1 : (q.kind == 6) = false) (hk2 : (q.kind == 7) = false) (hk3 : (q.kind == 8) = false) (hk4 : (q.kind == 9) = false) (hk5 : (q.kind == 10) = false) (hk6 : (q.kind == 11) = false) :
    Calls Tryz.prog 10 #[.pointer (some ⟨pw, 0, none⟩), .agg #[.int .i64 q.kind, .int .i64 q.h, .int .i64 q.i, .int .i64 q.key]] w fun e w' => e = .returned (.bool true) ∧ Sv w0 w' pw N (K + 10000) (b + 1) (c + 1) := by
  obtain ⟨kd, qh, qi, qk⟩ := q
  obtain ⟨i1, i2, i3, i4⟩ := hq
  simp only at i1 i2 i3 i4 hm hk0 hk1 hk2 hk3 hk4 hk5 hk6 ⊢
  have H := hid h
  have WI := hid (within_eq qh i2 1 (by decide) (by decide))
  have h01 := winI_le qh 0 1 (by decide)
  have H01 : Hid (winI qh 0 1 = 0 ∨ winI qh 0 1 = 1) := hid (by omega)
  generalize winI qh 0 1 = hh at WI H01
  have I3 := hid i3
  clear h h01 i1 i2 i3 i4
  go_enter Tryz.func10, Tryz.ntmps10
  go_wp2_with fail
  refine (WI.out _).mono ?_
  rintro e w1 ⟨rfl, rfl⟩
  go_wp2_with fail
  refine (pushV _ H01.out _ (H.out.plain ((Kept.refl _ _).alloc _)) (by omega) (by omega) (by omega) (by omega)).mono ?_
  rintro e w2 ⟨rfl, s2⟩
  have S2 := hid s2
  clear s2
  go_wp2
  go_ret
  exact ⟨rfl, S2.out.mono (by omega) (by omega) (by omega)⟩
set_option maxHeartbeats 1000000 in
theorem do_push_false (q : Ask) (hq : askI q) (h : Sv w0 w pw N K b c) (hb : b ≤ 600) (hK : K ≤ 60000000) (hr : 2 * b + 2 ≤ N) (hc : c ≤ 1000000) (hm : (q.i.tmod 3 != 0) = false) (hk0 : (q.kind == 5) = false) (hk1 : (q.kind == 6) = false) (hk2 : (q.kind == 7) = false) (hk3 : (q.kind == 8) = false) (hk4 : (q.kind == 9) = false) (hk5 : (q.kind == 10) = false) (hk6 : (q.kind == 11) = false) :
    Calls Tryz.prog 10 #[.pointer (some ⟨pw, 0, none⟩), .agg #[.int .i64 q.kind, .int .i64 q.h, .int .i64 q.i, .int .i64 q.key]] w fun e w' => e = .returned (.bool true) ∧ Sv w0 w' pw N (K + 10000) (b + 1) (c + 1) := by
  obtain ⟨kd, qh, qi, qk⟩ := q
  obtain ⟨i1, i2, i3, i4⟩ := hq
  simp only at i1 i2 i3 i4 hm hk0 hk1 hk2 hk3 hk4 hk5 hk6 ⊢
  have H := hid h
  have WI := hid (within_eq qh i2 1 (by decide) (by decide))
  have h01 := winI_le qh 0 1 (by decide)
  have H01 : Hid (winI qh 0 1 = 0 ∨ winI qh 0 1 = 1) := hid (by omega)
  generalize winI qh 0 1 = hh at WI H01
  have I3 := hid i3
  clear h h01 i1 i2 i3 i4
  go_enter Tryz.func10, Tryz.ntmps10
  go_wp2_with fail
  refine (WI.out _).mono ?_
  rintro e w1 ⟨rfl, rfl⟩
  go_wp2_with fail
  refine (pushV _ H01.out _ (H.out.plain ((Kept.refl _ _).alloc _)) (by omega) (by omega) (by omega) (by omega)).mono ?_
  rintro e w2 ⟨rfl, s2⟩
  have S2 := hid s2
  clear s2
  go_wp2
  go_ret
  exact ⟨rfl, S2.out.mono (by omega) (by omega) (by omega)⟩
set_option maxHeartbeats 1000000 in
theorem do_skip_true (q : Ask) (hq : askI q) (h : Sv w0 w pw N K b c) (hm : (q.i.tmod 3 != 0) = true) (hx : (q.i.tmod 4 != 0) = true) (hk0 : (q.kind == 5) = false) (hk1 : (q.kind == 6) = false) (hk2 : (q.kind == 7) = false) (hk3 : (q.kind == 8) = false) (hk4 : (q.kind == 9) = false) (hk5 : (q.kind == 10) = false) (hk6 : (q.kind == 11) = true) :
    Calls Tryz.prog 10 #[.pointer (some ⟨pw, 0, none⟩), .agg #[.int .i64 q.kind, .int .i64 q.h, .int .i64 q.i, .int .i64 q.key]] w fun e w' => e = .returned (.bool true) ∧ Sv w0 w' pw N (K + 10000) (b + 1) (c + 1) := by
  obtain ⟨kd, qh, qi, qk⟩ := q
  obtain ⟨i1, i2, i3, i4⟩ := hq
  simp only at i1 i2 i3 i4 hm hk0 hk1 hk2 hk3 hk4 hk5 hk6 hx ⊢
  have H := hid h
  have WI := hid (within_eq qh i2 1 (by decide) (by decide))
  clear h i1 i2 i3 i4
  go_enter Tryz.func10, Tryz.ntmps10
  go_wp2_with fail
  refine (WI.out _).mono ?_
  rintro e w1 ⟨rfl, rfl⟩
  go_wp2
  go_ret
  exact ⟨rfl, (H.out.plain ((Kept.refl _ _).alloc _)).mono (by omega) (by omega) (by omega)⟩
set_option maxHeartbeats 1000000 in
theorem do_skip_false (q : Ask) (hq : askI q) (h : Sv w0 w pw N K b c) (hm : (q.i.tmod 3 != 0) = false) (hx : (q.i.tmod 4 != 0) = true) (hk0 : (q.kind == 5) = false) (hk1 : (q.kind == 6) = false) (hk2 : (q.kind == 7) = false) (hk3 : (q.kind == 8) = false) (hk4 : (q.kind == 9) = false) (hk5 : (q.kind == 10) = false) (hk6 : (q.kind == 11) = true) :
    Calls Tryz.prog 10 #[.pointer (some ⟨pw, 0, none⟩), .agg #[.int .i64 q.kind, .int .i64 q.h, .int .i64 q.i, .int .i64 q.key]] w fun e w' => e = .returned (.bool true) ∧ Sv w0 w' pw N (K + 10000) (b + 1) (c + 1) := by
  obtain ⟨kd, qh, qi, qk⟩ := q
  obtain ⟨i1, i2, i3, i4⟩ := hq
  simp only at i1 i2 i3 i4 hm hk0 hk1 hk2 hk3 hk4 hk5 hk6 hx ⊢
  have H := hid h
  have WI := hid (within_eq qh i2 1 (by decide) (by decide))
  clear h i1 i2 i3 i4
  go_enter Tryz.func10, Tryz.ntmps10
  go_wp2_with fail
  refine (WI.out _).mono ?_
  rintro e w1 ⟨rfl, rfl⟩
  go_wp2
  go_ret
  exact ⟨rfl, (H.out.plain ((Kept.refl _ _).alloc _)).mono (by omega) (by omega) (by omega)⟩
/-- one call: whatever is asked -/
theorem doV (q : Ask) (hq : askI q) (h : Sv w0 w pw N K b c) (hr : 2 * b + 2 ≤ N) (hb : b ≤ 600) (hc : c ≤ 1000000) (hK : K ≤ 60000000) :
    Calls Tryz.prog 10 #[.pointer (some ⟨pw, 0, none⟩), .agg #[.int .i64 q.kind, .int .i64 q.h, .int .i64 q.i, .int .i64 q.key]] w fun e w' => e = .returned (.bool true) ∧ Sv w0 w' pw N (K + 10000) (b + 1) (c + 1) := by
  have ne : ∀ {k : Int}, q.kind ≠ k → (q.kind == k) = false := fun h => by simpa using h
  have eq : ∀ {k : Int}, q.kind = k → (q.kind == k) = true := fun h => by simpa using h
  by_cases c5 : q.kind = 5
  · cases hm : (q.i.tmod 3 != 0)
    · exact do_pop5_false q hq h hb hK hm (eq c5) (ne (by omega)) (ne (by omega)) (ne (by omega)) (ne (by omega)) (ne (by omega)) (ne (by omega))
    · exact do_pop5_true q hq h hb hK hm (eq c5) (ne (by omega)) (ne (by omega)) (ne (by omega)) (ne (by omega)) (ne (by omega)) (ne (by omega))
  by_cases c6 : q.kind = 6
  · cases hm : (q.i.tmod 3 != 0)
    · exact do_pop6_false q hq h hb hK hm (ne (by omega)) (eq c6) (ne (by omega)) (ne (by omega)) (ne (by omega)) (ne (by omega)) (ne (by omega))
    · exact do_pop6_true q hq h hb hK hm (ne (by omega)) (eq c6) (ne (by omega)) (ne (by omega)) (ne (by omega)) (ne (by omega)) (ne (by omega))
  by_cases c7 : q.kind = 7
  · cases hm : (q.i.tmod 3 != 0)
    · exact do_fall7_false q hq h hb hK hm (ne (by omega)) (ne (by omega)) (eq c7) (ne (by omega)) (ne (by omega)) (ne (by omega)) (ne (by omega))
    · exact do_fall7_true q hq h hb hK hm (ne (by omega)) (ne (by omega)) (eq c7) (ne (by omega)) (ne (by omega)) (ne (by omega)) (ne (by omega))
  by_cases c8 : q.kind = 8
  · cases hm : (q.i.tmod 3 != 0)
    · exact do_fall8_false q hq h hb hK hm (ne (by omega)) (ne (by omega)) (ne (by omega)) (eq c8) (ne (by omega)) (ne (by omega)) (ne (by omega))
    · exact do_fall8_true q hq h hb hK hm (ne (by omega)) (ne (by omega)) (ne (by omega)) (eq c8) (ne (by omega)) (ne (by omega)) (ne (by omega))
  by_cases c9 : q.kind = 9
  · cases hm : (q.i.tmod 3 != 0)
    · exact do_cut9_false q hq h hb hK hm (ne (by omega)) (ne (by omega)) (ne (by omega)) (ne (by omega)) (eq c9) (ne (by omega)) (ne (by omega))
    · exact do_cut9_true q hq h hb hK hm (ne (by omega)) (ne (by omega)) (ne (by omega)) (ne (by omega)) (eq c9) (ne (by omega)) (ne (by omega))
  by_cases c10 : q.kind = 10
  · cases hm : (q.i.tmod 3 != 0)
    · exact do_meld10_false q hq h hb hK hm (ne (by omega)) (ne (by omega)) (ne (by omega)) (ne (by omega)) (ne (by omega)) (eq c10) (ne (by omega))
    · exact do_meld10_true q hq h hb hK hm (ne (by omega)) (ne (by omega)) (ne (by omega)) (ne (by omega)) (ne (by omega)) (eq c10) (ne (by omega))
  by_cases c11 : q.kind = 11
  · cases hx : (q.i.tmod 4 != 0)
    · cases hm : (q.i.tmod 3 != 0)
      · exact do_drop11_false q hq h hb hK hx hm (ne (by omega)) (ne (by omega)) (ne (by omega)) (ne (by omega)) (ne (by omega)) (ne (by omega)) (eq c11)
      · exact do_drop11_true q hq h hb hK hx hm (ne (by omega)) (ne (by omega)) (ne (by omega)) (ne (by omega)) (ne (by omega)) (ne (by omega)) (eq c11)
    · cases hm : (q.i.tmod 3 != 0)
      · exact do_skip_false q hq h hm hx (ne (by omega)) (ne (by omega)) (ne (by omega)) (ne (by omega)) (ne (by omega)) (ne (by omega)) (eq c11)
      · exact do_skip_true q hq h hm hx (ne (by omega)) (ne (by omega)) (ne (by omega)) (ne (by omega)) (ne (by omega)) (ne (by omega)) (eq c11)
  cases hm : (q.i.tmod 3 != 0)
  · exact do_push_false q hq h hb hK hr hc hm (ne (by omega)) (ne (by omega)) (ne (by omega)) (ne (by omega)) (ne (by omega)) (ne (by omega)) (ne (by omega))
  · exact do_push_true q hq h hb hK hr hc hm (ne (by omega)) (ne (by omega)) (ne (by omega)) (ne (by omega)) (ne (by omega)) (ne (by omega)) (ne (by omega))
end
end Go.Proofs.YtnkpopeahmjodaaGreat

/- The walk of play: one call behind the other. -/
namespace Go.Proofs.YtnkpopeahmjodaaGreat
open Go.ChangeShapes Go.WideShapes Go.ChangeAt Go.RowKit
open Tr

set_option maxHeartbeats 2000000 in
theorem play_walk (a : Option Addr) (cap : Nat) (l : List Ask) (w : World) (hC : Came w a 4 ask4 l) (hI : ∀ x ∈ l, askI x) :
    Calls Tryz.prog 6 #[.int .i64 200, .slice a l.length cap, .int .i64 70] w fun e w' => e = .returned (.bool true) ∧ Below w.heap.size w w' := by
  have HC := hid hC
  have HI := hid hI
  clear hC hI
  go_enter Tryz.func6, Tryz.ntmps6
  go_wp2_with fail
  refine (freshV 200 w).mono ?_
  rintro e w1 ⟨pw, rfl, s1⟩
  rw [show most0 200 = 200 from rfl] at s1
  have S1 := hid s1
  clear s1
  go_wp2
  go_loopw [8] (fun iv wr => ∃ (i : Nat), iv = .int .i64 i ∧ i ≤ 70 ∧ Hid (Sv (Fm.of w) wr pw 200 (40000 * i) i i)) (fun iv _ => 70 - (intOf iv).toNat)
  case atStart => exact ⟨0, rfl, by decide, S1⟩
  case round =>
    clear S1
    obtain ⟨i, rfl, hi, hS⟩ := hrel
    rcases (by omega : (i < l.length ∧ i < 70) ∨ ((l.length ≤ i) ∨ (i < l.length ∧ 70 ≤ i))) with hh | hh
    · obtain ⟨hh1, hh2⟩ := hh
      have hx : l[i]? = some l[i] := List.getElem?_eq_getElem hh1
      have hq := HI.out l[i] (List.getElem_mem hh1)
      obtain ⟨b0, off, ee, hb0, hc0⟩ := HC.out.get hS.out.bel hx
      subst ee
      generalize l[i] = y at hx hc0 hq
      have HQ := hid hq
      have DO := hid (doV (w0 := Fm.of w) (w := wr) (pw := pw) (N := 200) (K := 40000 * i) (b := i) (c := i) y hq hS.out (by omega) (by omega) (by omega) (by omega))
      obtain ⟨kd, qh, qi, qk⟩ := y
      have d0 : wr.cell? ⟨b0, off + i * 4, none⟩ = some (.int .i64 kd) := by simpa [ask4] using hc0 0 (by decide)
      have d1 : wr.cell? ⟨b0, off + i * 4 + 1, none⟩ = some (.int .i64 qh) := by simpa [ask4, Nat.add_assoc] using hc0 1 (by decide)
      have d2 : wr.cell? ⟨b0, off + i * 4 + 2, none⟩ = some (.int .i64 qi) := by simpa [ask4, Nat.add_assoc] using hc0 2 (by decide)
      have d3 : wr.cell? ⟨b0, off + i * 4 + 3, none⟩ = some (.int .i64 qk) := by simpa [ask4, Nat.add_assoc] using hc0 3 (by decide)
      have hh1' : (i : Int) < (l.length : Int) := by omega
      have hh2' : (i : Int) < 70 := by omega
      clear hx hc0 hh1 hq
      go_wp2_with fail
      refine DO.out.mono ?_
      rintro e w2 ⟨rfl, s2⟩
      have S2 := hid s2
      clear s2 DO d0 d1 d2 d3
      go_wp2_with fail
      refine (rightV S2.out (by omega) (by omega)).mono ?_
      rintro e w3 ⟨rfl, s3⟩
      have S3 := hid (s3.mono (K' := 40000 * (i + 1)) (by omega) (Nat.le_refl _) (Nat.le_refl _))
      clear s3 S2
      go_wp2
      go_roundw
      case rel => exact ⟨i + 1, by go_num, by omega, S3⟩
      case measure => simp [intOf]; omega
    · have hout : ((i : Int) < (l.length : Int) → ¬ (i : Int) < 70) := by omega
      have B := hid hS.out.bel
      clear hS HC HI
      by_cases c1 : (i : Int) < (l.length : Int)
      · have c2 := hout c1
        clear hout hh
        go_wp2
        go_ret
        exact ⟨rfl, B.out⟩
      · clear hout hh
        go_wp2
        go_ret
        exact ⟨rfl, B.out⟩
end Go.Proofs.YtnkpopeahmjodaaGreat

/- How calls that came in are opened; the walk of LeftistDrops. -/
namespace Go.Proofs.YtnkpopeahmjodaaGreat
open Go.ChangeShapes Go.WideShapes Go.ChangeAt Go.RowKit
open Tr

theorem cells32 : Tryz.prog.cellsOf 32 = 4 := by kernel_rfl
section
variable {H : Type} {enc : TypeId × Value → H} {w : World} {base : Nat} {spare : Nat → Bool} {held : Bool}
theorem int_cells {fuel : Nat} {cs : List Value} {x : DataW H × List MemPlace} (h : DataW.trod enc Tryz.prog w base spare held fuel 3 cs = some x) : ∃ q : Int, cs = [.int .i64 q] ∧ I64 q := by
  obtain ⟨a, e0, _, wf⟩ := DataW.trod_int Tryz.underlying3 h
  exact ⟨a, e0, i64_of_wf wf⟩
theorem int2_cells {fuel : Nat} {cs : List Value} {x : DataW H × List MemPlace} (h : DataW.trod enc Tryz.prog w base spare held fuel 2 cs = some x) : ∃ q : Int, cs = [.int .i64 q] ∧ I64 q := by
  obtain ⟨a, e0, _, wf⟩ := DataW.trod_int Tryz.underlying2 h
  exact ⟨a, e0, i64_of_wf wf⟩
set_option maxRecDepth 100000 in
theorem ask_cells {fuel : Nat} {cs : List Value} {x : DataW H × List MemPlace} (h : DataW.trod enc Tryz.prog w base spare held fuel 32 cs = some x) : ∃ q : Ask, cs = ask4 q ∧ askI q := by
  obtain ⟨y0, y1, y2, y3, n, _, hl, h0, h1, h2, h3⟩ := Joins.trod_struct4 Tryz.underlying32 h
  rw [cells32] at hl
  match cs, hl with
  | [c0, c1, c2, c3], _ =>
    rw [cells3] at h0 h1 h2
    rw [cells2] at h3
    obtain ⟨a, e0, i0⟩ := int_cells h0
    obtain ⟨b, e1, i1⟩ := int_cells h1
    obtain ⟨c, e2, i2⟩ := int_cells h2
    obtain ⟨d, e3, i3⟩ := int2_cells h3
    simp at e0 e1 e2 e3
    exact ⟨⟨a, b, c, d⟩, by rw [e0, e1, e2, e3]; rfl, i0, i1, i2, i3⟩

end

set_option maxHeartbeats 4000000 in
theorem drops_walk (a : Option Addr) (cap : Nat) (l : List Ask) (h : Int) (hh : I64 h) (w : World) (hC : Came w a 4 ask4 l) (hI : ∀ x ∈ l, askI x) :
    Calls Tryz.prog 5 #[.slice a l.length cap, .int .i64 h] w fun e w' => e = .returned (.bool true) ∧ Below w.heap.size w w' := by
  have HC := hid hC
  have HI := hid hI
  have WI := hid (within_eq h hh 1 (by decide) (by decide))
  have h01 := winI_le h 0 1 (by decide)
  have H01 : Hid (winI h 0 1 = 0 ∨ winI h 0 1 = 1) := hid (by omega)
  generalize winI h 0 1 = k at WI H01
  clear hC hI hh h01
  go_enter Tryz.func5, Tryz.ntmps5
  go_wp2_with fail
  refine (freshV 200 w).mono ?_
  rintro e w1 ⟨pw, rfl, s1⟩
  rw [show most0 200 = 200 from rfl] at s1
  have S1 := hid s1
  clear s1
  go_wp2
  go_loopw [6] (fun iv wr => ∃ (i : Nat), iv = .int .i64 i ∧ i ≤ 50 ∧ Hid (Sv (Fm.of w) wr pw 200 (10000 * i) i i)) (fun iv _ => 50 - (intOf iv).toNat)
  case atStart => exact ⟨0, rfl, by decide, S1⟩
  case round =>
    clear S1
    obtain ⟨i, rfl, hi, hS⟩ := hrel
    rcases (by omega : (i < l.length ∧ i < 50) ∨ ((l.length ≤ i) ∨ (i < l.length ∧ 50 ≤ i))) with hh | hh
    · obtain ⟨hh1, hh2⟩ := hh
      have hx : l[i]? = some l[i] := List.getElem?_eq_getElem hh1
      have hq := HI.out l[i] (List.getElem_mem hh1)
      obtain ⟨b0, off, ee, hb0, hc0⟩ := HC.out.get hS.out.bel hx
      subst ee
      generalize l[i] = y at hx hc0 hq
      have DO := hid (doV (w0 := Fm.of w) (w := wr) (pw := pw) (N := 200) (K := 10000 * i) (b := i) (c := i) y hq hS.out (by omega) (by omega) (by omega) (by omega))
      obtain ⟨kd, qh, qi, qk⟩ := y
      have d0 : wr.cell? ⟨b0, off + i * 4, none⟩ = some (.int .i64 kd) := by simpa [ask4] using hc0 0 (by decide)
      have d1 : wr.cell? ⟨b0, off + i * 4 + 1, none⟩ = some (.int .i64 qh) := by simpa [ask4, Nat.add_assoc] using hc0 1 (by decide)
      have d2 : wr.cell? ⟨b0, off + i * 4 + 2, none⟩ = some (.int .i64 qi) := by simpa [ask4, Nat.add_assoc] using hc0 2 (by decide)
      have d3 : wr.cell? ⟨b0, off + i * 4 + 3, none⟩ = some (.int .i64 qk) := by simpa [ask4, Nat.add_assoc] using hc0 3 (by decide)
      have hh1' : (i : Int) < (l.length : Int) := by omega
      have hh2' : (i : Int) < 50 := by omega
      clear hx hc0 hh1 hq
      go_wp2_with fail
      refine DO.out.mono ?_
      rintro e w2 ⟨rfl, s2⟩
      have S2 := hid (s2.mono (K' := 10000 * (i + 1)) (by omega) (Nat.le_refl _) (Nat.le_refl _))
      clear s2 DO d0 d1 d2 d3
      go_wp2
      go_roundw
      case rel => exact ⟨i + 1, by go_num, by omega, S2⟩
      case measure => simp [intOf]; omega
    · have hout : ((i : Int) < (l.length : Int) → ¬ (i : Int) < 50) := by omega
      obtain ⟨L0, L1, nx, hlen, _, _, hs⟩ := hS.out
      clear hS HC HI
      by_cases c1 : (i : Int) < (l.length : Int)
      · have c2 := hout c1
        clear hout hh
        go_wp2_with fail
        refine (WI.out _).mono ?_
        rintro e w7 ⟨rfl, rfl⟩
        rcases H01.out with rfl | rfl
        · skip
          have C2 := hid (drop0S hs (by omega) (by omega))
          clear hs
          go_wp2_with fail
          refine C2.out.mono ?_
          rintro e w2 ⟨rfl, s2⟩
          have S2 := hid s2
          clear s2 C2
          have C3 := hid (rightS S2.out (by first | omega | simp) (by first | omega | simp) (by omega))
          go_wp2_with fail
          refine C3.out.mono ?_
          rintro e w3 ⟨rfl, s3⟩
          have S3 := hid s3
          clear s3 C3 S2
          obtain ⟨h3, v0, v1, P, c3, c4, l0, l1⟩ := S3.out.has
          obtain ⟨va, vc, rfl⟩ := l0.form
          have HN := hid (show ((([] : List (Nat × Int × Int)).length : Nat) : Int) = 0 from rfl)
          simp only [List.length_nil] at c3
          clear l0 l1
          have C4 := hid (drop1S S3.out (by omega) (by omega))
          go_wp2_with fail
          refine C4.out.mono ?_
          rintro e w4 ⟨rfl, s4⟩
          have S4 := hid s4
          clear s4 C4 S3 c3 c4 h3
          obtain ⟨pa, hl0, c0, ln⟩ := S4.out.len
          have LN := hid ln
          have B4 := hid S4.out.bel
          clear ln S4
          go_wp2_with fail
          refine (LN.out _ (Kept.refl _ _)).mono ?_
          rintro e w5 ⟨rfl, m, rfl⟩
          simp only [List.length_nil, Nat.add_zero, Nat.mul_zero]
          go_wp2_with fail
          refine (known_any _).mono ?_
          rintro e w6 ⟨rfl, b6⟩
          have B6 := hid ((below_drewN B4.out m).trans (b6.mono B4.out.size))
          clear b6
          go_wp2
          go_ret
          exact ⟨rfl, B6.out⟩
        · skip
          have C2 := hid (drop1S hs (by omega) (by omega))
          clear hs
          go_wp2_with fail
          refine C2.out.mono ?_
          rintro e w2 ⟨rfl, s2⟩
          have S2 := hid s2
          clear s2 C2
          have C3 := hid (rightS S2.out (by first | omega | simp) (by first | omega | simp) (by omega))
          go_wp2_with fail
          refine C3.out.mono ?_
          rintro e w3 ⟨rfl, s3⟩
          have S3 := hid s3
          clear s3 C3 S2
          obtain ⟨h3, v0, v1, P, c3, c4, l0, l1⟩ := S3.out.has
          obtain ⟨va, vc, rfl⟩ := l1.form
          have HN := hid (show ((([] : List (Nat × Int × Int)).length : Nat) : Int) = 0 from rfl)
          simp only [List.length_nil] at c4
          clear l0 l1
          have C4 := hid (drop0S S3.out (by omega) (by omega))
          go_wp2_with fail
          refine C4.out.mono ?_
          rintro e w4 ⟨rfl, s4⟩
          have S4 := hid s4
          clear s4 C4 S3 c3 c4 h3
          obtain ⟨pa, hl0, c0, ln⟩ := S4.out.len
          have LN := hid ln
          have B4 := hid S4.out.bel
          clear ln S4
          go_wp2_with fail
          refine (LN.out _ (Kept.refl _ _)).mono ?_
          rintro e w5 ⟨rfl, m, rfl⟩
          simp only [List.length_nil, Nat.add_zero, Nat.mul_zero]
          go_wp2_with fail
          refine (known_any _).mono ?_
          rintro e w6 ⟨rfl, b6⟩
          have B6 := hid ((below_drewN B4.out m).trans (b6.mono B4.out.size))
          clear b6
          go_wp2
          go_ret
          exact ⟨rfl, B6.out⟩
      · clear hout hh
        go_wp2_with fail
        refine (WI.out _).mono ?_
        rintro e w7 ⟨rfl, rfl⟩
        rcases H01.out with rfl | rfl
        · skip
          have C2 := hid (drop0S hs (by omega) (by omega))
          clear hs
          go_wp2_with fail
          refine C2.out.mono ?_
          rintro e w2 ⟨rfl, s2⟩
          have S2 := hid s2
          clear s2 C2
          have C3 := hid (rightS S2.out (by first | omega | simp) (by first | omega | simp) (by omega))
          go_wp2_with fail
          refine C3.out.mono ?_
          rintro e w3 ⟨rfl, s3⟩
          have S3 := hid s3
          clear s3 C3 S2
          obtain ⟨h3, v0, v1, P, c3, c4, l0, l1⟩ := S3.out.has
          obtain ⟨va, vc, rfl⟩ := l0.form
          have HN := hid (show ((([] : List (Nat × Int × Int)).length : Nat) : Int) = 0 from rfl)
          simp only [List.length_nil] at c3
          clear l0 l1
          have C4 := hid (drop1S S3.out (by omega) (by omega))
          go_wp2_with fail
          refine C4.out.mono ?_
          rintro e w4 ⟨rfl, s4⟩
          have S4 := hid s4
          clear s4 C4 S3 c3 c4 h3
          obtain ⟨pa, hl0, c0, ln⟩ := S4.out.len
          have LN := hid ln
          have B4 := hid S4.out.bel
          clear ln S4
          go_wp2_with fail
          refine (LN.out _ (Kept.refl _ _)).mono ?_
          rintro e w5 ⟨rfl, m, rfl⟩
          simp only [List.length_nil, Nat.add_zero, Nat.mul_zero]
          go_wp2_with fail
          refine (known_any _).mono ?_
          rintro e w6 ⟨rfl, b6⟩
          have B6 := hid ((below_drewN B4.out m).trans (b6.mono B4.out.size))
          clear b6
          go_wp2
          go_ret
          exact ⟨rfl, B6.out⟩
        · skip
          have C2 := hid (drop1S hs (by omega) (by omega))
          clear hs
          go_wp2_with fail
          refine C2.out.mono ?_
          rintro e w2 ⟨rfl, s2⟩
          have S2 := hid s2
          clear s2 C2
          have C3 := hid (rightS S2.out (by first | omega | simp) (by first | omega | simp) (by omega))
          go_wp2_with fail
          refine C3.out.mono ?_
          rintro e w3 ⟨rfl, s3⟩
          have S3 := hid s3
          clear s3 C3 S2
          obtain ⟨h3, v0, v1, P, c3, c4, l0, l1⟩ := S3.out.has
          obtain ⟨va, vc, rfl⟩ := l1.form
          have HN := hid (show ((([] : List (Nat × Int × Int)).length : Nat) : Int) = 0 from rfl)
          simp only [List.length_nil] at c4
          clear l0 l1
          have C4 := hid (drop0S S3.out (by omega) (by omega))
          go_wp2_with fail
          refine C4.out.mono ?_
          rintro e w4 ⟨rfl, s4⟩
          have S4 := hid s4
          clear s4 C4 S3 c3 c4 h3
          obtain ⟨pa, hl0, c0, ln⟩ := S4.out.len
          have LN := hid ln
          have B4 := hid S4.out.bel
          clear ln S4
          go_wp2_with fail
          refine (LN.out _ (Kept.refl _ _)).mono ?_
          rintro e w5 ⟨rfl, m, rfl⟩
          simp only [List.length_nil, Nat.add_zero, Nat.mul_zero]
          go_wp2_with fail
          refine (known_any _).mono ?_
          rintro e w6 ⟨rfl, b6⟩
          have B6 := hid ((below_drewN B4.out m).trans (b6.mono B4.out.size))
          clear b6
          go_wp2
          go_ret
          exact ⟨rfl, B6.out⟩
end Go.Proofs.YtnkpopeahmjodaaGreat
