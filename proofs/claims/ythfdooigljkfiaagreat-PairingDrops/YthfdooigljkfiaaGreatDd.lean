/- The laws' do: one call, whichever. -/
import Derived.Test.YthfdooigljkfiaaGreatDv
import Derived.Test.YthfdooigljkfiaaGreatLift
namespace Go.Proofs.YthfdooigljkfiaaGreat
open Go.ChangeShapes Go.WideShapes Go.ChangeAt Go.RowKit
open Tr

section
variable {w0 : Fm} {w : World} {pw N K b c : Nat}
set_option maxHeartbeats 1000000 in
theorem do_pop5_true (q : Ask) (hq : askI q) (h : Sv w0 w pw N K b c) (hb : b ≤ 600) (hK : K ≤ 60000000) (hm : (q.i.tmod 3 != 0) = true) (hk0 : (q.kind == 5) = true) (hk1 : (q.kind == 6) = false) (hk2 : (q.kind == 7) = false) (hk3 : (q.kind == 8) = false) (hk4 : (q.kind == 9) = false) (hk5 : (q.kind == 10) = false) (hk6 : (q.kind == 11) = false) :
    Calls Tryz.prog 19 #[.pointer (some ⟨pw, 0, none⟩), .agg #[.int .i64 q.kind, .int .i64 q.h, .int .i64 q.i, .int .i64 q.key]] w fun e w' => e = .returned (.bool true) ∧ Sv w0 w' pw N (K + 50000) (b + 1) (c + 1) := by
  obtain ⟨kd, qh, qi, qk⟩ := q
  obtain ⟨i1, i2, i3, i4⟩ := hq
  simp only at i1 i2 i3 i4 hm hk0 hk1 hk2 hk3 hk4 hk5 hk6 ⊢
  have H := hid h
  have WI := hid (within_eq qh i2 1 (by decide) (by decide))
  have h01 := winI_le qh 0 1 (by decide)
  have H01 : Hid (winI qh 0 1 = 0 ∨ winI qh 0 1 = 1) := hid (by omega)
  generalize winI qh 0 1 = hh at WI H01
  have I3 := hid i3
  clear h h01 i1 i2 i3 i4
  go_enter Tryz.func19, Tryz.ntmps19
  go_wp2_with fail
  refine (WI.out _).mono ?_
  rintro e w1 ⟨rfl, rfl⟩
  go_wp2_with fail
  refine (popV _ H01.out (H.out.plain ((Kept.refl _ _).alloc _)) (by omega) (by omega)).mono ?_
  rintro e w2 ⟨rfl, s2⟩
  have S2 := hid s2
  clear s2
  go_wp2
  go_ret
  exact ⟨rfl, S2.out.mono (by omega) (by omega) (by omega)⟩
set_option maxHeartbeats 1000000 in
theorem do_pop5_false (q : Ask) (hq : askI q) (h : Sv w0 w pw N K b c) (hb : b ≤ 600) (hK : K ≤ 60000000) (hm : (q.i.tmod 3 != 0) = false) (hk0 : (q.kind == 5) = true) (hk1 : (q.kind == 6) = false) (hk2 : (q.kind == 7) = false) (hk3 : (q.kind == 8) = false) (hk4 : (q.kind == 9) = false) (hk5 : (q.kind == 10) = false) (hk6 : (q.kind == 11) = false) :
    Calls Tryz.prog 19 #[.pointer (some ⟨pw, 0, none⟩), .agg #[.int .i64 q.kind, .int .i64 q.h, .int .i64 q.i, .int .i64 q.key]] w fun e w' => e = .returned (.bool true) ∧ Sv w0 w' pw N (K + 50000) (b + 1) (c + 1) := by
  obtain ⟨kd, qh, qi, qk⟩ := q
  obtain ⟨i1, i2, i3, i4⟩ := hq
  simp only at i1 i2 i3 i4 hm hk0 hk1 hk2 hk3 hk4 hk5 hk6 ⊢
  have H := hid h
  have WI := hid (within_eq qh i2 1 (by decide) (by decide))
  have h01 := winI_le qh 0 1 (by decide)
  have H01 : Hid (winI qh 0 1 = 0 ∨ winI qh 0 1 = 1) := hid (by omega)
  generalize winI qh 0 1 = hh at WI H01
  have I3 := hid i3
  clear h h01 i1 i2 i3 i4
  go_enter Tryz.func19, Tryz.ntmps19
  go_wp2_with fail
  refine (WI.out _).mono ?_
  rintro e w1 ⟨rfl, rfl⟩
  go_wp2_with fail
  refine (popV _ H01.out (H.out.plain ((Kept.refl _ _).alloc _)) (by omega) (by omega)).mono ?_
  rintro e w2 ⟨rfl, s2⟩
  have S2 := hid s2
  clear s2
  go_wp2
  go_ret
  exact ⟨rfl, S2.out.mono (by omega) (by omega) (by omega)⟩
set_option maxHeartbeats 1000000 in
theorem do_pop6_true (q : Ask) (hq : askI q) (h : Sv w0 w pw N K b c) (hb : b ≤ 600) (hK : K ≤ 60000000) (hm : (q.i.tmod 3 != 0) = true) (hk0 : (q.kind == 5) = false) (hk1 : (q.kind == 6) = true) (hk2 : (q.kind == 7) = false) (hk3 : (q.kind == 8) = false) (hk4 : (q.kind == 9) = false) (hk5 : (q.kind == 10) = false) (hk6 : (q.kind == 11) = false) :
    Calls Tryz.prog 19 #[.pointer (some ⟨pw, 0, none⟩), .agg #[.int .i64 q.kind, .int .i64 q.h, .int .i64 q.i, .int .i64 q.key]] w fun e w' => e = .returned (.bool true) ∧ Sv w0 w' pw N (K + 50000) (b + 1) (c + 1) := by
  obtain ⟨kd, qh, qi, qk⟩ := q
  obtain ⟨i1, i2, i3, i4⟩ := hq
  simp only at i1 i2 i3 i4 hm hk0 hk1 hk2 hk3 hk4 hk5 hk6 ⊢
  have H := hid h
  have WI := hid (within_eq qh i2 1 (by decide) (by decide))
  have h01 := winI_le qh 0 1 (by decide)
  have H01 : Hid (winI qh 0 1 = 0 ∨ winI qh 0 1 = 1) := hid (by omega)
  generalize winI qh 0 1 = hh at WI H01
  have I3 := hid i3
  clear h h01 i1 i2 i3 i4
  go_enter Tryz.func19, Tryz.ntmps19
  go_wp2_with fail
  refine (WI.out _).mono ?_
  rintro e w1 ⟨rfl, rfl⟩
  go_wp2_with fail
  refine (popV _ H01.out (H.out.plain ((Kept.refl _ _).alloc _)) (by omega) (by omega)).mono ?_
  rintro e w2 ⟨rfl, s2⟩
  have S2 := hid s2
  clear s2
  go_wp2
  go_ret
  exact ⟨rfl, S2.out.mono (by omega) (by omega) (by omega)⟩
set_option maxHeartbeats 1000000 in
theorem do_pop6_false (q : Ask) (hq : askI q) (h : Sv w0 w pw N K b c) (hb : b ≤ 600) (hK : K ≤ 60000000) (hm : (q.i.tmod 3 != 0) = false) (hk0 : (q.kind == 5) = false) (hk1 : (q.kind == 6) = true) (hk2 : (q.kind == 7) = false) (hk3 : (q.kind == 8) = false) (hk4 : (q.kind == 9) = false) (hk5 : (q.kind == 10) = false) (hk6 : (q.kind == 11) = false) :
    Calls Tryz.prog 19 #[.pointer (some ⟨pw, 0, none⟩), .agg #[.int .i64 q.kind, .int .i64 q.h, .int .i64 q.i, .int .i64 q.key]] w fun e w' => e = .returned (.bool true) ∧ Sv w0 w' pw N (K + 50000) (b + 1) (c + 1) := by
  obtain ⟨kd, qh, qi, qk⟩ := q
  obtain ⟨i1, i2, i3, i4⟩ := hq
  simp only at i1 i2 i3 i4 hm hk0 hk1 hk2 hk3 hk4 hk5 hk6 ⊢
  have H := hid h
  have WI := hid (within_eq qh i2 1 (by decide) (by decide))
  have h01 := winI_le qh 0 1 (by decide)
  have H01 : Hid (winI qh 0 1 = 0 ∨ winI qh 0 1 = 1) := hid (by omega)
  generalize winI qh 0 1 = hh at WI H01
  have I3 := hid i3
  clear h h01 i1 i2 i3 i4
  go_enter Tryz.func19, Tryz.ntmps19
  go_wp2_with fail
  refine (WI.out _).mono ?_
  rintro e w1 ⟨rfl, rfl⟩
  go_wp2_with fail
  refine (popV _ H01.out (H.out.plain ((Kept.refl _ _).alloc _)) (by omega) (by omega)).mono ?_
  rintro e w2 ⟨rfl, s2⟩
  have S2 := hid s2
  clear s2
  go_wp2
  go_ret
  exact ⟨rfl, S2.out.mono (by omega) (by omega) (by omega)⟩
set_option maxHeartbeats 1000000 in
theorem do_fall7_true (q : Ask) (hq : askI q) (h : Sv w0 w pw N K b c) (hb : b ≤ 600) (hK : K ≤ 60000000) (hm : (q.i.tmod 3 != 0) = true) (hk0 : (q.kind == 5) = false) (hk1 : (q.kind == 6) = false) (hk2 : (q.kind == 7) = true) (hk3 : (q.kind == 8) = false) (hk4 : (q.kind == 9) = false) (hk5 : (q.kind == 10) = false) (hk6 : (q.kind == 11) = false) :
    Calls Tryz.prog 19 #[.pointer (some ⟨pw, 0, none⟩), .agg #[.int .i64 q.kind, .int .i64 q.h, .int .i64 q.i, .int .i64 q.key]] w fun e w' => e = .returned (.bool true) ∧ Sv w0 w' pw N (K + 50000) (b + 1) (c + 1) := by
  obtain ⟨kd, qh, qi, qk⟩ := q
  obtain ⟨i1, i2, i3, i4⟩ := hq
  simp only at i1 i2 i3 i4 hm hk0 hk1 hk2 hk3 hk4 hk5 hk6 ⊢
  have H := hid h
  have WI := hid (within_eq qh i2 1 (by decide) (by decide))
  have h01 := winI_le qh 0 1 (by decide)
  have H01 : Hid (winI qh 0 1 = 0 ∨ winI qh 0 1 = 1) := hid (by omega)
  generalize winI qh 0 1 = hh at WI H01
  have I3 := hid i3
  clear h h01 i1 i2 i3 i4
  go_enter Tryz.func19, Tryz.ntmps19
  go_wp2_with fail
  refine (WI.out _).mono ?_
  rintro e w1 ⟨rfl, rfl⟩
  go_wp2_with fail
  refine (fallV _ _ _ H01.out I3.out (H.out.plain ((Kept.refl _ _).alloc _)) (by omega) (by omega)).mono ?_
  rintro e w2 ⟨rfl, s2⟩
  have S2 := hid s2
  clear s2
  go_wp2
  go_ret
  exact ⟨rfl, S2.out.mono (by omega) (by omega) (by omega)⟩
set_option maxHeartbeats 1000000 in
theorem do_fall7_false (q : Ask) (hq : askI q) (h : Sv w0 w pw N K b c) (hb : b ≤ 600) (hK : K ≤ 60000000) (hm : (q.i.tmod 3 != 0) = false) (hk0 : (q.kind == 5) = false) (hk1 : (q.kind == 6) = false) (hk2 : (q.kind == 7) = true) (hk3 : (q.kind == 8) = false) (hk4 : (q.kind == 9) = false) (hk5 : (q.kind == 10) = false) (hk6 : (q.kind == 11) = false) :
    Calls Tryz.prog 19 #[.pointer (some ⟨pw, 0, none⟩), .agg #[.int .i64 q.kind, .int .i64 q.h, .int .i64 q.i, .int .i64 q.key]] w fun e w' => e = .returned (.bool true) ∧ Sv w0 w' pw N (K + 50000) (b + 1) (c + 1) := by
  obtain ⟨kd, qh, qi, qk⟩ := q
  obtain ⟨i1, i2, i3, i4⟩ := hq
  simp only at i1 i2 i3 i4 hm hk0 hk1 hk2 hk3 hk4 hk5 hk6 ⊢
  have H := hid h
  have WI := hid (within_eq qh i2 1 (by decide) (by decide))
  have h01 := winI_le qh 0 1 (by decide)
  have H01 : Hid (winI qh 0 1 = 0 ∨ winI qh 0 1 = 1) := hid (by omega)
  generalize winI qh 0 1 = hh at WI H01
  have I3 := hid i3
  clear h h01 i1 i2 i3 i4
  go_enter Tryz.func19, Tryz.ntmps19
  go_wp2_with fail
  refine (WI.out _).mono ?_
  rintro e w1 ⟨rfl, rfl⟩
  go_wp2_with fail
  refine (fallV _ _ _ H01.out I3.out (H.out.plain ((Kept.refl _ _).alloc _)) (by omega) (by omega)).mono ?_
  rintro e w2 ⟨rfl, s2⟩
  have S2 := hid s2
  clear s2
  go_wp2
  go_ret
  exact ⟨rfl, S2.out.mono (by omega) (by omega) (by omega)⟩
set_option maxHeartbeats 1000000 in
theorem do_fall8_true (q : Ask) (hq : askI q) (h : Sv w0 w pw N K b c) (hb : b ≤ 600) (hK : K ≤ 60000000) (hm : (q.i.tmod 3 != 0) = true) (hk0 : (q.kind == 5) = false) (hk1 : (q.kind == 6) = false) (hk2 : (q.kind == 7) = false) (hk3 : (q.kind == 8) = true) (hk4 : (q.kind == 9) = false) (hk5 : (q.kind == 10) = false) (hk6 : (q.kind == 11) = false) :
    Calls Tryz.prog 19 #[.pointer (some ⟨pw, 0, none⟩), .agg #[.int .i64 q.kind, .int .i64 q.h, .int .i64 q.i, .int .i64 q.key]] w fun e w' => e = .returned (.bool true) ∧ Sv w0 w' pw N (K + 50000) (b + 1) (c + 1) := by
  obtain ⟨kd, qh, qi, qk⟩ := q
  obtain ⟨i1, i2, i3, i4⟩ := hq
  simp only at i1 i2 i3 i4 hm hk0 hk1 hk2 hk3 hk4 hk5 hk6 ⊢
  have H := hid h
  have WI := hid (within_eq qh i2 1 (by decide) (by decide))
  have h01 := winI_le qh 0 1 (by decide)
  have H01 : Hid (winI qh 0 1 = 0 ∨ winI qh 0 1 = 1) := hid (by omega)
  generalize winI qh 0 1 = hh at WI H01
  have I3 := hid i3
  clear h h01 i1 i2 i3 i4
  go_enter Tryz.func19, Tryz.ntmps19
  go_wp2_with fail
  refine (WI.out _).mono ?_
  rintro e w1 ⟨rfl, rfl⟩
  go_wp2_with fail
  refine (fallV _ _ _ H01.out I3.out (H.out.plain ((Kept.refl _ _).alloc _)) (by omega) (by omega)).mono ?_
  rintro e w2 ⟨rfl, s2⟩
  have S2 := hid s2
  clear s2
  go_wp2
  go_ret
  exact ⟨rfl, S2.out.mono (by omega) (by omega) (by omega)⟩
set_option maxHeartbeats 1000000 in
theorem do_fall8_false (q : Ask) (hq : askI q) (h : Sv w0 w pw N K b c) (hb : b ≤ 600) (hK : K ≤ 60000000) (hm : (q.i.tmod 3 != 0) = false) (hk0 : (q.kind == 5) = false) (hk1 : (q.kind == 6) = false) (hk2 : (q.kind == 7) = false) (hk3 : (q.kind == 8) = true) (hk4 : (q.kind == 9) = false) (hk5 : (q.kind == 10) = false) (hk6 : (q.kind == 11) = false) :
    Calls Tryz.prog 19 #[.pointer (some ⟨pw, 0, none⟩), .agg #[.int .i64 q.kind, .int .i64 q.h, .int .i64 q.i, .int .i64 q.key]] w fun e w' => e = .returned (.bool true) ∧ Sv w0 w' pw N (K + 50000) (b + 1) (c + 1) := by
  obtain ⟨kd, qh, qi, qk⟩ := q
  obtain ⟨i1, i2, i3, i4⟩ := hq
  simp only at i1 i2 i3 i4 hm hk0 hk1 hk2 hk3 hk4 hk5 hk6 ⊢
  have H := hid h
  have WI := hid (within_eq qh i2 1 (by decide) (by decide))
  have h01 := winI_le qh 0 1 (by decide)
  have H01 : Hid (winI qh 0 1 = 0 ∨ winI qh 0 1 = 1) := hid (by omega)
  generalize winI qh 0 1 = hh at WI H01
  have I3 := hid i3
  clear h h01 i1 i2 i3 i4
  go_enter Tryz.func19, Tryz.ntmps19
  go_wp2_with fail
  refine (WI.out _).mono ?_
  rintro e w1 ⟨rfl, rfl⟩
  go_wp2_with fail
  refine (fallV _ _ _ H01.out I3.out (H.out.plain ((Kept.refl _ _).alloc _)) (by omega) (by omega)).mono ?_
  rintro e w2 ⟨rfl, s2⟩
  have S2 := hid s2
  clear s2
  go_wp2
  go_ret
  exact ⟨rfl, S2.out.mono (by omega) (by omega) (by omega)⟩
set_option maxHeartbeats 1000000 in
theorem do_cut9_true (q : Ask) (hq : askI q) (h : Sv w0 w pw N K b c) (hb : b ≤ 600) (hK : K ≤ 60000000) (hm : (q.i.tmod 3 != 0) = true) (hk0 : (q.kind == 5) = false) (hk1 : (q.kind == 6) = false) (hk2 : (q.kind == 7) = false) (hk3 : (q.kind == 8) = false) (hk4 : (q.kind == 9) = true) (hk5 : (q.kind == 10) = false) (hk6 : (q.kind == 11) = false) :
    Calls Tryz.prog 19 #[.pointer (some ⟨pw, 0, none⟩), .agg #[.int .i64 q.kind, .int .i64 q.h, .int .i64 q.i, .int .i64 q.key]] w fun e w' => e = .returned (.bool true) ∧ Sv w0 w' pw N (K + 50000) (b + 1) (c + 1) := by
  obtain ⟨kd, qh, qi, qk⟩ := q
  obtain ⟨i1, i2, i3, i4⟩ := hq
  simp only at i1 i2 i3 i4 hm hk0 hk1 hk2 hk3 hk4 hk5 hk6 ⊢
  have H := hid h
  have WI := hid (within_eq qh i2 1 (by decide) (by decide))
  have h01 := winI_le qh 0 1 (by decide)
  have H01 : Hid (winI qh 0 1 = 0 ∨ winI qh 0 1 = 1) := hid (by omega)
  generalize winI qh 0 1 = hh at WI H01
  have I3 := hid i3
  clear h h01 i1 i2 i3 i4
  go_enter Tryz.func19, Tryz.ntmps19
  go_wp2_with fail
  refine (WI.out _).mono ?_
  rintro e w1 ⟨rfl, rfl⟩
  go_wp2_with fail
  refine (cutV _ _ H01.out I3.out (H.out.plain ((Kept.refl _ _).alloc _)) (by omega) (by omega)).mono ?_
  rintro e w2 ⟨rfl, s2⟩
  have S2 := hid s2
  clear s2
  go_wp2
  go_ret
  exact ⟨rfl, S2.out.mono (by omega) (by omega) (by omega)⟩
set_option maxHeartbeats 1000000 in
theorem do_cut9_false (q : Ask) (hq : askI q) (h : Sv w0 w pw N K b c) (hb : b ≤ 600) (hK : K ≤ 60000000) (hm : (q.i.tmod 3 != 0) = false) (hk0 : (q.kind == 5) = false) (hk1 : (q.kind == 6) = false) (hk2 : (q.kind == 7) = false) (hk3 : (q.kind == 8) = false) (hk4 : (q.kind == 9) = true) (hk5 : (q.kind == 10) = false) (hk6 : (q.kind == 11) = false) :
    Calls Tryz.prog 19 #[.pointer (some ⟨pw, 0, none⟩), .agg #[.int .i64 q.kind, .int .i64 q.h, .int .i64 q.i, .int .i64 q.key]] w fun e w' => e = .returned (.bool true) ∧ Sv w0 w' pw N (K + 50000) (b + 1) (c + 1) := by
  obtain ⟨kd, qh, qi, qk⟩ := q
  obtain ⟨i1, i2, i3, i4⟩ := hq
  simp only at i1 i2 i3 i4 hm hk0 hk1 hk2 hk3 hk4 hk5 hk6 ⊢
  have H := hid h
  have WI := hid (within_eq qh i2 1 (by decide) (by decide))
  have h01 := winI_le qh 0 1 (by decide)
  have H01 : Hid (winI qh 0 1 = 0 ∨ winI qh 0 1 = 1) := hid (by omega)
  generalize winI qh 0 1 = hh at WI H01
  have I3 := hid i3
  clear h h01 i1 i2 i3 i4
  go_enter Tryz.func19, Tryz.ntmps19
  go_wp2_with fail
  refine (WI.out _).mono ?_
  rintro e w1 ⟨rfl, rfl⟩
  go_wp2_with fail
  refine (cutV _ _ H01.out I3.out (H.out.plain ((Kept.refl _ _).alloc _)) (by omega) (by omega)).mono ?_
  rintro e w2 ⟨rfl, s2⟩
  have S2 := hid s2
  clear s2
  go_wp2
  go_ret
  exact ⟨rfl, S2.out.mono (by omega) (by omega) (by omega)⟩
set_option maxHeartbeats 1000000 in
theorem do_meld10_true (q : Ask) (hq : askI q) (h : Sv w0 w pw N K b c) (hb : b ≤ 600) (hK : K ≤ 60000000) (hm : (q.i.tmod 3 != 0) = true) (hk0 : (q.kind == 5) = false) (hk1 : (q.kind == 6) = false) (hk2 : (q.kind == 7) = false) (hk3 : (q.kind == 8) = false) (hk4 : (q.kind == 9) = false) (hk5 : (q.kind == 10) = true) (hk6 : (q.kind == 11) = false) :
    Calls Tryz.prog 19 #[.pointer (some ⟨pw, 0, none⟩), .agg #[.int .i64 q.kind, .int .i64 q.h, .int .i64 q.i, .int .i64 q.key]] w fun e w' => e = .returned (.bool true) ∧ Sv w0 w' pw N (K + 50000) (b + 1) (c + 1) := by
  obtain ⟨kd, qh, qi, qk⟩ := q
  obtain ⟨i1, i2, i3, i4⟩ := hq
  simp only at i1 i2 i3 i4 hm hk0 hk1 hk2 hk3 hk4 hk5 hk6 ⊢
  have H := hid h
  have WI := hid (within_eq qh i2 1 (by decide) (by decide))
  have h01 := winI_le qh 0 1 (by decide)
  have H01 : Hid (winI qh 0 1 = 0 ∨ winI qh 0 1 = 1) := hid (by omega)
  generalize winI qh 0 1 = hh at WI H01
  have I3 := hid i3
  clear h h01 i1 i2 i3 i4
  go_enter Tryz.func19, Tryz.ntmps19
  go_wp2_with fail
  refine (WI.out _).mono ?_
  rintro e w1 ⟨rfl, rfl⟩
  go_wp2_with fail
  refine (meldV _ H01.out (H.out.plain ((Kept.refl _ _).alloc _)) (by omega) (by omega)).mono ?_
  rintro e w2 ⟨rfl, s2⟩
  have S2 := hid s2
  clear s2
  go_wp2
  go_ret
  exact ⟨rfl, S2.out.mono (by omega) (by omega) (by omega)⟩
set_option maxHeartbeats 1000000 in
theorem do_meld10_false (q : Ask) (hq : askI q) (h : Sv w0 w pw N K b c) (hb : b ≤ 600) (hK : K ≤ 60000000) (hm : (q.i.tmod 3 != 0) = false) (hk0 : (q.kind == 5) = false) (hk1 : (q.kind == 6) = false) (hk2 : (q.kind == 7) = false) (hk3 : (q.kind == 8) = false) (hk4 : (q.kind == 9) = false) (hk5 : (q.kind == 10) = true) (hk6 : (q.kind == 11) = false) :
    Calls Tryz.prog 19 #[.pointer (some ⟨pw, 0, none⟩), .agg #[.int .i64 q.kind, .int .i64 q.h, .int .i64 q.i, .int .i64 q.key]] w fun e w' => e = .returned (.bool true) ∧ Sv w0 w' pw N (K + 50000) (b + 1) (c + 1) := by
  obtain ⟨kd, qh, qi, qk⟩ := q
  obtain ⟨i1, i2, i3, i4⟩ := hq
  simp only at i1 i2 i3 i4 hm hk0 hk1 hk2 hk3 hk4 hk5 hk6 ⊢
  have H := hid h
  have WI := hid (within_eq qh i2 1 (by decide) (by decide))
  have h01 := winI_le qh 0 1 (by decide)
  have H01 : Hid (winI qh 0 1 = 0 ∨ winI qh 0 1 = 1) := hid (by omega)
  generalize winI qh 0 1 = hh at WI H01
  have I3 := hid i3
  clear h h01 i1 i2 i3 i4
  go_enter Tryz.func19, Tryz.ntmps19
  go_wp2_with fail
  refine (WI.out _).mono ?_
  rintro e w1 ⟨rfl, rfl⟩
  go_wp2_with fail
  refine (meldV _ H01.out (H.out.plain ((Kept.refl _ _).alloc _)) (by omega) (by omega)).mono ?_
  rintro e w2 ⟨rfl, s2⟩
  have S2 := hid s2
  clear s2
  go_wp2
  go_ret
  exact ⟨rfl, S2.out.mono (by omega) (by omega) (by omega)⟩
set_option maxHeartbeats 1000000 in
theorem do_drop11_true (q : Ask) (hq : askI q) (h : Sv w0 w pw N K b c) (hb : b ≤ 600) (hK : K ≤ 60000000) (hx : (q.i.tmod 4 != 0) = false) (hm : (q.i.tmod 3 != 0) = true) (hk0 : (q.kind == 5) = false) (hk1 : (q.kind == 6) = false) (hk2 : (q.kind == 7) = false) (hk3 : (q.kind == 8) = false) (hk4 : (q.kind == 9) = false) (hk5 : (q.kind == 10) = false) (hk6 : (q.kind == 11) = true) :
    Calls Tryz.prog 19 #[.pointer (some ⟨pw, 0, none⟩), .agg #[.int .i64 q.kind, .int .i64 q.h, .int .i64 q.i, .int .i64 q.key]] w fun e w' => e = .returned (.bool true) ∧ Sv w0 w' pw N (K + 50000) (b + 1) (c + 1) := by
  obtain ⟨kd, qh, qi, qk⟩ := q
  obtain ⟨i1, i2, i3, i4⟩ := hq
  simp only at i1 i2 i3 i4 hm hk0 hk1 hk2 hk3 hk4 hk5 hk6 hx ⊢
  have H := hid h
  have WI := hid (within_eq qh i2 1 (by decide) (by decide))
  have h01 := winI_le qh 0 1 (by decide)
  have H01 : Hid (winI qh 0 1 = 0 ∨ winI qh 0 1 = 1) := hid (by omega)
  generalize winI qh 0 1 = hh at WI H01
  have I3 := hid i3
  clear h h01 i1 i2 i3 i4
  go_enter Tryz.func19, Tryz.ntmps19
  go_wp2_with fail
  refine (WI.out _).mono ?_
  rintro e w1 ⟨rfl, rfl⟩
  go_wp2_with fail
  refine (dropV _ H01.out (H.out.plain ((Kept.refl _ _).alloc _)) (by omega) (by omega)).mono ?_
  rintro e w2 ⟨rfl, s2⟩
  have S2 := hid s2
  clear s2
  go_wp2
  go_ret
  exact ⟨rfl, S2.out.mono (by omega) (by omega) (by omega)⟩
set_option maxHeartbeats 1000000 in
theorem do_drop11_false (q : Ask) (hq : askI q) (h : Sv w0 w pw N K b c) (hb : b ≤ 600) (hK : K ≤ 60000000) (hx : (q.i.tmod 4 != 0) = false) (hm : (q.i.tmod 3 != 0) = false) (hk0 : (q.kind == 5) = false) (hk1 : (q.kind == 6) = false) (hk2 : (q.kind == 7) = false) (hk3 : (q.kind == 8) = false) (hk4 : (q.kind == 9) = false) (hk5 : (q.kind == 10) = false) (hk6 : (q.kind == 11) = true) :
    Calls Tryz.prog 19 #[.pointer (some ⟨pw, 0, none⟩), .agg #[.int .i64 q.kind, .int .i64 q.h, .int .i64 q.i, .int .i64 q.key]] w fun e w' => e = .returned (.bool true) ∧ Sv w0 w' pw N (K + 50000) (b + 1) (c + 1) := by
  obtain ⟨kd, qh, qi, qk⟩ := q
  obtain ⟨i1, i2, i3, i4⟩ := hq
  simp only at i1 i2 i3 i4 hm hk0 hk1 hk2 hk3 hk4 hk5 hk6 hx ⊢
  have H := hid h
  have WI := hid (within_eq qh i2 1 (by decide) (by decide))
  have h01 := winI_le qh 0 1 (by decide)
  have H01 : Hid (winI qh 0 1 = 0 ∨ winI qh 0 1 = 1) := hid (by omega)
  generalize winI qh 0 1 = hh at WI H01
  have I3 := hid i3
  clear h h01 i1 i2 i3 i4
  go_enter Tryz.func19, Tryz.ntmps19
  go_wp2_with fail
  refine (WI.out _).mono ?_
  rintro e w1 ⟨rfl, rfl⟩
  go_wp2_with fail
  refine (dropV _ H01.out (H.out.plain ((Kept.refl _ _).alloc _)) (by omega) (by omega)).mono ?_
  rintro e w2 ⟨rfl, s2⟩
  have S2 := hid s2
  clear s2
  go_wp2
  go_ret
  exact ⟨rfl, S2.out.mono (by omega) (by omega) (by omega)⟩
set_option maxHeartbeats 1000000 in
theorem do_push_true (q : Ask) (hq : askI q) (h : Sv w0 w pw N K b c) (hb : b ≤ 600) (hK : K ≤ 60000000) (hr : 2 * b + 2 ≤ N) (hc : c ≤ 1000000) (hm : (q.i.tmod 3 != 0) = true) (hk0 : (q.kind == 5) = false) (hk1 : (q.kind == 6) = false) (hk2 : (q.kind == 7) = false) (hk3 : (q.kind == 8) = false) (hk4 : (q.kind == 9) = false) (hk5 : (q.kind == 10) = false) (hk6 : (q.kind == 11) = false) :
    Calls Tryz.prog 19 #[.pointer (some ⟨pw, 0, none⟩), .agg #[.int .i64 q.kind, .int .i64 q.h, .int .i64 q.i, .int .i64 q.key]] w fun e w' => e = .returned (.bool true) ∧ Sv w0 w' pw N (K + 50000) (b + 1) (c + 1) := by
  obtain ⟨kd, qh, qi, qk⟩ := q
  obtain ⟨i1, i2, i3, i4⟩ := hq
  simp only at i1 i2 i3 i4 hm hk0 hk1 hk2 hk3 hk4 hk5 hk6 ⊢
  have H := hid h
  have WI := hid (within_eq qh i2 1 (by decide) (by decide))
  have h01 := winI_le qh 0 1 (by decide)
  have H01 : Hid (winI qh 0 1 = 0 ∨ winI qh 0 1 = 1) := hid (by omega)
  generalize winI qh 0 1 = hh at WI H01
  have I3 := hid i3
  clear h h01 i1 i2 i3 i4
  go_enter Tryz.func19, Tryz.ntmps19
  go_wp2_with fail
  refine (WI.out _).mono ?_
  rintro e w1 ⟨rfl, rfl⟩
  go_wp2_with fail
  refine (pushV _ H01.out _ (H.out.plain ((Kept.refl _ _).alloc _)) (by omega) (by omega) (by omega) (by omega)).mono ?_
  rintro e w2 ⟨rfl, s2⟩
  have S2 := hid s2
  clear s2
  go_wp2
  go_ret
  exact ⟨rfl, S2.out.mono (by omega) (by omega) (by omega)⟩
set_option maxHeartbeats 1000000 in
theorem do_push_false (q : Ask) (hq : askI q) (h : Sv w0 w pw N K b c) (hb : b ≤ 600) (hK : K ≤ 60000000) (hr : 2 * b + 2 ≤ N) (hc : c ≤ 1000000) (hm : (q.i.tmod 3 != 0) = false) (hk0 : (q.kind == 5) = false) (hk1 : (q.kind == 6) = false) (hk2 : (q.kind == 7) = false) (hk3 : (q.kind == 8) = false) (hk4 : (q.kind == 9) = false) (hk5 : (q.kind == 10) = false) (hk6 : (q.kind == 11) = false) :
    Calls Tryz.prog 19 #[.pointer (some ⟨pw, 0, none⟩), .agg #[.int .i64 q.kind, .int .i64 q.h, .int .i64 q.i, .int .i64 q.key]] w fun e w' => e = .returned (.bool true) ∧ Sv w0 w' pw N (K + 50000) (b + 1) (c + 1) := by
  obtain ⟨kd, qh, qi, qk⟩ := q
  obtain ⟨i1, i2, i3, i4⟩ := hq
  simp only at i1 i2 i3 i4 hm hk0 hk1 hk2 hk3 hk4 hk5 hk6 ⊢
  have H := hid h
  have WI := hid (within_eq qh i2 1 (by decide) (by decide))
  have h01 := winI_le qh 0 1 (by decide)
  have H01 : Hid (winI qh 0 1 = 0 ∨ winI qh 0 1 = 1) := hid (by omega)
  generalize winI qh 0 1 = hh at WI H01
  have I3 := hid i3
  clear h h01 i1 i2 i3 i4
  go_enter Tryz.func19, Tryz.ntmps19
  go_wp2_with fail
  refine (WI.out _).mono ?_
  rintro e w1 ⟨rfl, rfl⟩
  go_wp2_with fail
  refine (pushV _ H01.out _ (H.out.plain ((Kept.refl _ _).alloc _)) (by omega) (by omega) (by omega) (by omega)).mono ?_
  rintro e w2 ⟨rfl, s2⟩
  have S2 := hid s2
  clear s2
  go_wp2
  go_ret
  exact ⟨rfl, S2.out.mono (by omega) (by omega) (by omega)⟩
set_option maxHeartbeats 1000000 in
theorem do_skip_true (q : Ask) (hq : askI q) (h : Sv w0 w pw N K b c) (hm : (q.i.tmod 3 != 0) = true) (hx : (q.i.tmod 4 != 0) = true) (hk0 : (q.kind == 5) = false) (hk1 : (q.kind == 6) = false) (hk2 : (q.kind == 7) = false) (hk3 : (q.kind == 8) = false) (hk4 : (q.kind == 9) = false) (hk5 : (q.kind == 10) = false) (hk6 : (q.kind == 11) = true) :
    Calls Tryz.prog 19 #[.pointer (some ⟨pw, 0, none⟩), .agg #[.int .i64 q.kind, .int .i64 q.h, .int .i64 q.i, .int .i64 q.key]] w fun e w' => e = .returned (.bool true) ∧ Sv w0 w' pw N (K + 50000) (b + 1) (c + 1) := by
  obtain ⟨kd, qh, qi, qk⟩ := q
  obtain ⟨i1, i2, i3, i4⟩ := hq
  simp only at i1 i2 i3 i4 hm hk0 hk1 hk2 hk3 hk4 hk5 hk6 hx ⊢
  have H := hid h
  have WI := hid (within_eq qh i2 1 (by decide) (by decide))
  clear h i1 i2 i3 i4
  go_enter Tryz.func19, Tryz.ntmps19
  go_wp2_with fail
  refine (WI.out _).mono ?_
  rintro e w1 ⟨rfl, rfl⟩
  go_wp2
  go_ret
  exact ⟨rfl, (H.out.plain ((Kept.refl _ _).alloc _)).mono (by omega) (by omega) (by omega)⟩
set_option maxHeartbeats 1000000 in
theorem do_skip_false (q : Ask) (hq : askI q) (h : Sv w0 w pw N K b c) (hm : (q.i.tmod 3 != 0) = false) (hx : (q.i.tmod 4 != 0) = true) (hk0 : (q.kind == 5) = false) (hk1 : (q.kind == 6) = false) (hk2 : (q.kind == 7) = false) (hk3 : (q.kind == 8) = false) (hk4 : (q.kind == 9) = false) (hk5 : (q.kind == 10) = false) (hk6 : (q.kind == 11) = true) :
    Calls Tryz.prog 19 #[.pointer (some ⟨pw, 0, none⟩), .agg #[.int .i64 q.kind, .int .i64 q.h, .int .i64 q.i, .int .i64 q.key]] w fun e w' => e = .returned (.bool true) ∧ Sv w0 w' pw N (K + 50000) (b + 1) (c + 1) := by
  obtain ⟨kd, qh, qi, qk⟩ := q
  obtain ⟨i1, i2, i3, i4⟩ := hq
  simp only at i1 i2 i3 i4 hm hk0 hk1 hk2 hk3 hk4 hk5 hk6 hx ⊢
  have H := hid h
  have WI := hid (within_eq qh i2 1 (by decide) (by decide))
  clear h i1 i2 i3 i4
  go_enter Tryz.func19, Tryz.ntmps19
  go_wp2_with fail
  refine (WI.out _).mono ?_
  rintro e w1 ⟨rfl, rfl⟩
  go_wp2
  go_ret
  exact ⟨rfl, (H.out.plain ((Kept.refl _ _).alloc _)).mono (by omega) (by omega) (by omega)⟩
/-- one call: whatever is asked -/
theorem doV (q : Ask) (hq : askI q) (h : Sv w0 w pw N K b c) (hr : 2 * b + 2 ≤ N) (hb : b ≤ 600) (hc : c ≤ 1000000) (hK : K ≤ 60000000) :
    Calls Tryz.prog 19 #[.pointer (some ⟨pw, 0, none⟩), .agg #[.int .i64 q.kind, .int .i64 q.h, .int .i64 q.i, .int .i64 q.key]] w fun e w' => e = .returned (.bool true) ∧ Sv w0 w' pw N (K + 50000) (b + 1) (c + 1) := by
  have ne : ∀ {k : Int}, q.kind ≠ k → (q.kind == k) = false := fun h => by simpa using h
  have eq : ∀ {k : Int}, q.kind = k → (q.kind == k) = true := fun h => by simpa using h
  by_cases c5 : q.kind = 5
  · cases hm : (q.i.tmod 3 != 0)
    · exact do_pop5_false q hq h hb hK hm (eq c5) (ne (by omega)) (ne (by omega)) (ne (by omega)) (ne (by omega)) (ne (by omega)) (ne (by omega))
    · exact do_pop5_true q hq h hb hK hm (eq c5) (ne (by omega)) (ne (by omega)) (ne (by omega)) (ne (by omega)) (ne (by omega)) (ne (by omega))
  by_cases c6 : q.kind = 6
  · cases hm : (q.i.tmod 3 != 0)
    · exact do_pop6_false q hq h hb hK hm (ne (by omega)) (eq c6) (ne (by omega)) (ne (by omega)) (ne (by omega)) (ne (by omega)) (ne (by omega))
    · exact do_pop6_true q hq h hb hK hm (ne (by omega)) (eq c6) (ne (by omega)) (ne (by omega)) (ne (by omega)) (ne (by omega)) (ne (by omega))
  by_cases c7 : q.kind = 7
  · cases hm : (q.i.tmod 3 != 0)
    · exact do_fall7_false q hq h hb hK hm (ne (by omega)) (ne (by omega)) (eq c7) (ne (by omega)) (ne (by omega)) (ne (by omega)) (ne (by omega))
    · exact do_fall7_true q hq h hb hK hm (ne (by omega)) (ne (by omega)) (eq c7) (ne (by omega)) (ne (by omega)) (ne (by omega)) (ne (by omega))
  by_cases c8 : q.kind = 8
  · cases hm : (q.i.tmod 3 != 0)
    · exact do_fall8_false q hq h hb hK hm (ne (by omega)) (ne (by omega)) (ne (by omega)) (eq c8) (ne (by omega)) (ne (by omega)) (ne (by omega))
    · exact do_fall8_true q hq h hb hK hm (ne (by omega)) (ne (by omega)) (ne (by omega)) (eq c8) (ne (by omega)) (ne (by omega)) (ne (by omega))
  by_cases c9 : q.kind = 9
  · cases hm : (q.i.tmod 3 != 0)
    · exact do_cut9_false q hq h hb hK hm (ne (by omega)) (ne (by omega)) (ne (by omega)) (ne (by omega)) (eq c9) (ne (by omega)) (ne (by omega))
    · exact do_cut9_true q hq h hb hK hm (ne (by omega)) (ne (by omega)) (ne (by omega)) (ne (by omega)) (eq c9) (ne (by omega)) (ne (by omega))
  by_cases c10 : q.kind = 10
  · cases hm : (q.i.tmod 3 != 0)
    · exact do_meld10_false q hq h hb hK hm (ne (by omega)) (ne (by omega)) (ne (by omega)) (ne (by omega)) (ne (by omega)) (eq c10) (ne (by omega))
    · exact do_meld10_true q hq h hb hK hm (ne (by omega)) (ne (by omega)) (ne (by omega)) (ne (by omega)) (ne (by omega)) (eq c10) (ne (by omega))
  by_cases c11 : q.kind = 11
  · cases hx : (q.i.tmod 4 != 0)
    · cases hm : (q.i.tmod 3 != 0)
      · exact do_drop11_false q hq h hb hK hx hm (ne (by omega)) (ne (by omega)) (ne (by omega)) (ne (by omega)) (ne (by omega)) (ne (by omega)) (eq c11)
      · exact do_drop11_true q hq h hb hK hx hm (ne (by omega)) (ne (by omega)) (ne (by omega)) (ne (by omega)) (ne (by omega)) (ne (by omega)) (eq c11)
    · cases hm : (q.i.tmod 3 != 0)
      · exact do_skip_false q hq h hm hx (ne (by omega)) (ne (by omega)) (ne (by omega)) (ne (by omega)) (ne (by omega)) (ne (by omega)) (eq c11)
      · exact do_skip_true q hq h hm hx (ne (by omega)) (ne (by omega)) (ne (by omega)) (ne (by omega)) (ne (by omega)) (ne (by omega)) (eq c11)
  cases hm : (q.i.tmod 3 != 0)
  · exact do_push_false q hq h hb hK hr hc hm (ne (by omega)) (ne (by omega)) (ne (by omega)) (ne (by omega)) (ne (by omega)) (ne (by omega)) (ne (by omega))
  · exact do_push_true q hq h hb hK hr hc hm (ne (by omega)) (ne (by omega)) (ne (by omega)) (ne (by omega)) (ne (by omega)) (ne (by omega)) (ne (by omega))
end
end Go.Proofs.YthfdooigljkfiaaGreat
