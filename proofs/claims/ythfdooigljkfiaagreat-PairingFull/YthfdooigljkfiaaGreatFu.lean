/- The laws' do in an arena of any size; the walk of play there, of LeftistFull. -/
import Derived.Test.YthfdooigljkfiaaGreatFp
import Derived.Test.YthfdooigljkfiaaGreatOq
namespace Go.Proofs.YthfdooigljkfiaaGreat
open Go.ChangeShapes Go.WideShapes Go.ChangeAt Go.RowKit
open Tr

section
variable {w0 : Fm} {w : World} {pw N K b c : Nat}
set_option maxHeartbeats 1000000 in
theorem do_pushF_true (q : Ask) (hq : askI q) (h : Sv w0 w pw N K b c) (hb : b ≤ 600) (hK : K ≤ 60000000) (hc : c ≤ 1000000) (hm : (q.i.tmod 3 != 0) = true) (hk0 : (q.kind == 5) = false) (hk1 : (q.kind == 6) = false) (hk2 : (q.kind == 7) = false) (hk3 : (q.kind == 8) = false) (hk4 : (q.kind == 9) = false) (hk5 : (q.kind == 10) = false) (hk6 : (q.kind == 11) = false) :
    Calls Tryz.prog 19 #[.pointer (some ⟨pw, 0, none⟩), .agg #[.int .i64 q.kind, .int .i64 q.h, .int .i64 q.i, .int .i64 q.key]] w fun e w' => e = .returned (.bool true) ∧ Sv w0 w' pw N (K + 50000) (b + 1) (c + 1) := by
  obtain ⟨kd, qh, qi, qk⟩ := q
  obtain ⟨i1, i2, i3, i4⟩ := hq
  simp only at i1 i2 i3 i4 hm hk0 hk1 hk2 hk3 hk4 hk5 hk6 ⊢
  have H := hid h
  have WI := hid (within_eq qh i2 1 (by decide) (by decide))
  have h01 := winI_le qh 0 1 (by decide)
  have H01 : Hid (winI qh 0 1 = 0 ∨ winI qh 0 1 = 1) := hid (by omega)
  generalize winI qh 0 1 = hh at WI H01
  have I3 := hid i3
  clear h h01 i1 i2 i3 i4
  go_enter Tryz.func19, Tryz.ntmps19
  go_wp2_with fail
  refine (WI.out _).mono ?_
  rintro e w1 ⟨rfl, rfl⟩
  go_wp2_with fail
  refine (pushF _ H01.out _ (H.out.plain ((Kept.refl _ _).alloc _)) (by omega) (by omega) (by omega)).mono ?_
  rintro e w2 ⟨rfl, s2⟩
  have S2 := hid s2
  clear s2
  go_wp2
  go_ret
  exact ⟨rfl, S2.out.mono (by omega) (by omega) (by omega)⟩
set_option maxHeartbeats 1000000 in
theorem do_pushF_false (q : Ask) (hq : askI q) (h : Sv w0 w pw N K b c) (hb : b ≤ 600) (hK : K ≤ 60000000) (hc : c ≤ 1000000) (hm : (q.i.tmod 3 != 0) = false) (hk0 : (q.kind == 5) = false) (hk1 : (q.kind == 6) = false) (hk2 : (q.kind == 7) = false) (hk3 : (q.kind == 8) = false) (hk4 : (q.kind == 9) = false) (hk5 : (q.kind == 10) = false) (hk6 : (q.kind == 11) = false) :
    Calls Tryz.prog 19 #[.pointer (some ⟨pw, 0, none⟩), .agg #[.int .i64 q.kind, .int .i64 q.h, .int .i64 q.i, .int .i64 q.key]] w fun e w' => e = .returned (.bool true) ∧ Sv w0 w' pw N (K + 50000) (b + 1) (c + 1) := by
  obtain ⟨kd, qh, qi, qk⟩ := q
  obtain ⟨i1, i2, i3, i4⟩ := hq
  simp only at i1 i2 i3 i4 hm hk0 hk1 hk2 hk3 hk4 hk5 hk6 ⊢
  have H := hid h
  have WI := hid (within_eq qh i2 1 (by decide) (by decide))
  have h01 := winI_le qh 0 1 (by decide)
  have H01 : Hid (winI qh 0 1 = 0 ∨ winI qh 0 1 = 1) := hid (by omega)
  generalize winI qh 0 1 = hh at WI H01
  have I3 := hid i3
  clear h h01 i1 i2 i3 i4
  go_enter Tryz.func19, Tryz.ntmps19
  go_wp2_with fail
  refine (WI.out _).mono ?_
  rintro e w1 ⟨rfl, rfl⟩
  go_wp2_with fail
  refine (pushF _ H01.out _ (H.out.plain ((Kept.refl _ _).alloc _)) (by omega) (by omega) (by omega)).mono ?_
  rintro e w2 ⟨rfl, s2⟩
  have S2 := hid s2
  clear s2
  go_wp2
  go_ret
  exact ⟨rfl, S2.out.mono (by omega) (by omega) (by omega)⟩
/-- one call: whatever is asked -/
theorem doF (q : Ask) (hq : askI q) (h : Sv w0 w pw N K b c) (hb : b ≤ 600) (hc : c ≤ 1000000) (hK : K ≤ 60000000) :
    Calls Tryz.prog 19 #[.pointer (some ⟨pw, 0, none⟩), .agg #[.int .i64 q.kind, .int .i64 q.h, .int .i64 q.i, .int .i64 q.key]] w fun e w' => e = .returned (.bool true) ∧ Sv w0 w' pw N (K + 50000) (b + 1) (c + 1) := by
  have ne : ∀ {k : Int}, q.kind ≠ k → (q.kind == k) = false := fun h => by simpa using h
  have eq : ∀ {k : Int}, q.kind = k → (q.kind == k) = true := fun h => by simpa using h
  by_cases c5 : q.kind = 5
  · cases hm : (q.i.tmod 3 != 0)
    · exact do_pop5_false q hq h hb hK hm (eq c5) (ne (by omega)) (ne (by omega)) (ne (by omega)) (ne (by omega)) (ne (by omega)) (ne (by omega))
    · exact do_pop5_true q hq h hb hK hm (eq c5) (ne (by omega)) (ne (by omega)) (ne (by omega)) (ne (by omega)) (ne (by omega)) (ne (by omega))
  by_cases c6 : q.kind = 6
  · cases hm : (q.i.tmod 3 != 0)
    · exact do_pop6_false q hq h hb hK hm (ne (by omega)) (eq c6) (ne (by omega)) (ne (by omega)) (ne (by omega)) (ne (by omega)) (ne (by omega))
    · exact do_pop6_true q hq h hb hK hm (ne (by omega)) (eq c6) (ne (by omega)) (ne (by omega)) (ne (by omega)) (ne (by omega)) (ne (by omega))
  by_cases c7 : q.kind = 7
  · cases hm : (q.i.tmod 3 != 0)
    · exact do_fall7_false q hq h hb hK hm (ne (by omega)) (ne (by omega)) (eq c7) (ne (by omega)) (ne (by omega)) (ne (by omega)) (ne (by omega))
    · exact do_fall7_true q hq h hb hK hm (ne (by omega)) (ne (by omega)) (eq c7) (ne (by omega)) (ne (by omega)) (ne (by omega)) (ne (by omega))
  by_cases c8 : q.kind = 8
  · cases hm : (q.i.tmod 3 != 0)
    · exact do_fall8_false q hq h hb hK hm (ne (by omega)) (ne (by omega)) (ne (by omega)) (eq c8) (ne (by omega)) (ne (by omega)) (ne (by omega))
    · exact do_fall8_true q hq h hb hK hm (ne (by omega)) (ne (by omega)) (ne (by omega)) (eq c8) (ne (by omega)) (ne (by omega)) (ne (by omega))
  by_cases c9 : q.kind = 9
  · cases hm : (q.i.tmod 3 != 0)
    · exact do_cut9_false q hq h hb hK hm (ne (by omega)) (ne (by omega)) (ne (by omega)) (ne (by omega)) (eq c9) (ne (by omega)) (ne (by omega))
    · exact do_cut9_true q hq h hb hK hm (ne (by omega)) (ne (by omega)) (ne (by omega)) (ne (by omega)) (eq c9) (ne (by omega)) (ne (by omega))
  by_cases c10 : q.kind = 10
  · cases hm : (q.i.tmod 3 != 0)
    · exact do_meld10_false q hq h hb hK hm (ne (by omega)) (ne (by omega)) (ne (by omega)) (ne (by omega)) (ne (by omega)) (eq c10) (ne (by omega))
    · exact do_meld10_true q hq h hb hK hm (ne (by omega)) (ne (by omega)) (ne (by omega)) (ne (by omega)) (ne (by omega)) (eq c10) (ne (by omega))
  by_cases c11 : q.kind = 11
  · cases hx : (q.i.tmod 4 != 0)
    · cases hm : (q.i.tmod 3 != 0)
      · exact do_drop11_false q hq h hb hK hx hm (ne (by omega)) (ne (by omega)) (ne (by omega)) (ne (by omega)) (ne (by omega)) (ne (by omega)) (eq c11)
      · exact do_drop11_true q hq h hb hK hx hm (ne (by omega)) (ne (by omega)) (ne (by omega)) (ne (by omega)) (ne (by omega)) (ne (by omega)) (eq c11)
    · cases hm : (q.i.tmod 3 != 0)
      · exact do_skip_false q hq h hm hx (ne (by omega)) (ne (by omega)) (ne (by omega)) (ne (by omega)) (ne (by omega)) (ne (by omega)) (eq c11)
      · exact do_skip_true q hq h hm hx (ne (by omega)) (ne (by omega)) (ne (by omega)) (ne (by omega)) (ne (by omega)) (ne (by omega)) (eq c11)
  cases hm : (q.i.tmod 3 != 0)
  · exact do_pushF_false q hq h hb hK hc hm (ne (by omega)) (ne (by omega)) (ne (by omega)) (ne (by omega)) (ne (by omega)) (ne (by omega)) (ne (by omega))
  · exact do_pushF_true q hq h hb hK hc hm (ne (by omega)) (ne (by omega)) (ne (by omega)) (ne (by omega)) (ne (by omega)) (ne (by omega)) (ne (by omega))
end

set_option maxHeartbeats 2000000 in
theorem play_any (sz : Int) (a : Option Addr) (cap : Nat) (l : List Ask) (w : World) (hC : Came w a 4 ask4 l) (hI : ∀ x ∈ l, askI x) :
    Calls Tryz.prog 17 #[.int .i64 sz, .slice a l.length cap, .int .i64 70] w fun e w' => e = .returned (.bool true) ∧ Below w.heap.size w w' := by
  have HC := hid hC
  have HI := hid hI
  clear hC hI
  go_enter Tryz.func17, Tryz.ntmps17
  go_wp2_with fail
  refine (freshV sz w).mono ?_
  rintro e w1 ⟨pw, rfl, s1⟩
  have S1 := hid s1
  clear s1
  go_wp2
  go_loopw [8] (fun iv wr => ∃ (i : Nat), iv = .int .i64 i ∧ i ≤ 70 ∧ Hid (Sv (Fm.of w) wr pw (most0 sz) (136000 * i) i i)) (fun iv _ => 70 - (intOf iv).toNat)
  case atStart => exact ⟨0, rfl, by decide, S1⟩
  case round =>
    clear S1
    obtain ⟨i, rfl, hi, hS⟩ := hrel
    rcases (by omega : (i < l.length ∧ i < 70) ∨ ((l.length ≤ i) ∨ (i < l.length ∧ 70 ≤ i))) with hh | hh
    · obtain ⟨hh1, hh2⟩ := hh
      have hx : l[i]? = some l[i] := List.getElem?_eq_getElem hh1
      have hq := HI.out l[i] (List.getElem_mem hh1)
      obtain ⟨b0, off, ee, hb0, hc0⟩ := HC.out.get hS.out.bel hx
      subst ee
      generalize l[i] = y at hx hc0 hq
      have HQ := hid hq
      have DO := hid (doF (w0 := Fm.of w) (w := wr) (pw := pw) (N := most0 sz) (K := 136000 * i) (b := i) (c := i) y hq hS.out (by omega) (by omega) (by omega))
      obtain ⟨kd, qh, qi, qk⟩ := y
      have d0 : wr.cell? ⟨b0, off + i * 4, none⟩ = some (.int .i64 kd) := by simpa [ask4] using hc0 0 (by decide)
      have d1 : wr.cell? ⟨b0, off + i * 4 + 1, none⟩ = some (.int .i64 qh) := by simpa [ask4, Nat.add_assoc] using hc0 1 (by decide)
      have d2 : wr.cell? ⟨b0, off + i * 4 + 2, none⟩ = some (.int .i64 qi) := by simpa [ask4, Nat.add_assoc] using hc0 2 (by decide)
      have d3 : wr.cell? ⟨b0, off + i * 4 + 3, none⟩ = some (.int .i64 qk) := by simpa [ask4, Nat.add_assoc] using hc0 3 (by decide)
      have hh1' : (i : Int) < (l.length : Int) := by omega
      have hh2' : (i : Int) < 70 := by omega
      clear hx hc0 hh1 hq
      go_wp2_with fail
      refine DO.out.mono ?_
      rintro e w2 ⟨rfl, s2⟩
      have S2 := hid s2
      clear s2 DO d0 d1 d2 d3
      go_wp2_with fail
      refine (rightV S2.out (by omega) (by omega)).mono ?_
      rintro e w3 ⟨rfl, s3⟩
      have S3 := hid (s3.mono (K' := 136000 * (i + 1)) (by omega) (Nat.le_refl _) (Nat.le_refl _))
      clear s3 S2
      go_wp2
      go_roundw
      case rel => exact ⟨i + 1, by go_num, by omega, S3⟩
      case measure => simp [intOf]; omega
    · have hout : ((i : Int) < (l.length : Int) → ¬ (i : Int) < 70) := by omega
      have B := hid hS.out.bel
      clear hS HC HI
      by_cases c1 : (i : Int) < (l.length : Int)
      · have c2 := hout c1
        clear hout hh
        go_wp2
        go_ret
        exact ⟨rfl, B.out⟩
      · clear hout hh
        go_wp2
        go_ret
        exact ⟨rfl, B.out⟩

set_option maxHeartbeats 1000000 in
theorem full_walk (n : Int) (hn : I64 n) (a : Option Addr) (cap : Nat) (l : List Ask) (w : World) (hC : Came w a 4 ask4 l) (hI : ∀ x ∈ l, askI x) :
    Calls Tryz.prog 5 #[.int .i64 n, .slice a l.length cap] w fun e w' => e = .returned (.bool true) ∧ Below w.heap.size w w' := by
  have WI := hid (within_eq n hn 14 (by decide) (by decide))
  have PL := hid (fun sz => play_any sz a cap l w hC hI)
  clear hC hI hn
  go_enter Tryz.func5, Tryz.ntmps5
  go_wp2_with fail
  refine (WI.out _).mono ?_
  rintro e w0 ⟨rfl, rfl⟩
  go_wp2_with fail
  refine (PL.out _).mono ?_
  rintro e w1 ⟨rfl, b1⟩
  have B1 := hid b1
  clear b1 PL
  go_wp2_with fail
  refine (known_any w1).mono ?_
  rintro e w2 ⟨rfl, b2⟩
  have B2 := hid (B1.out.trans (b2.mono B1.out.size))
  clear b2 B1
  go_wp2
  go_ret
  exact ⟨rfl, B2.out⟩
end Go.Proofs.YthfdooigljkfiaaGreat
