/- How calls that came in are opened; the walk of LeftistDrops. -/
import Derived.Test.YthfdooigljkfiaaGreatPy
namespace Go.Proofs.YthfdooigljkfiaaGreat
open Go.ChangeShapes Go.WideShapes Go.ChangeAt Go.RowKit
open Tr

theorem cells32 : Tryz.prog.cellsOf 44 = 4 := by kernel_rfl
section
variable {H : Type} {enc : TypeId × Value → H} {w : World} {base : Nat} {spare : Nat → Bool} {held : Bool}
theorem int_cells {fuel : Nat} {cs : List Value} {x : DataW H × List MemPlace} (h : DataW.trod enc Tryz.prog w base spare held fuel 3 cs = some x) : ∃ q : Int, cs = [.int .i64 q] ∧ I64 q := by
  obtain ⟨a, e0, _, wf⟩ := DataW.trod_int Tryz.underlying3 h
  exact ⟨a, e0, i64_of_wf wf⟩
theorem int2_cells {fuel : Nat} {cs : List Value} {x : DataW H × List MemPlace} (h : DataW.trod enc Tryz.prog w base spare held fuel 2 cs = some x) : ∃ q : Int, cs = [.int .i64 q] ∧ I64 q := by
  obtain ⟨a, e0, _, wf⟩ := DataW.trod_int Tryz.underlying2 h
  exact ⟨a, e0, i64_of_wf wf⟩
set_option maxRecDepth 100000 in
theorem ask_cells {fuel : Nat} {cs : List Value} {x : DataW H × List MemPlace} (h : DataW.trod enc Tryz.prog w base spare held fuel 44 cs = some x) : ∃ q : Ask, cs = ask4 q ∧ askI q := by
  obtain ⟨y0, y1, y2, y3, n, _, hl, h0, h1, h2, h3⟩ := Joins.trod_struct4 Tryz.underlying44 h
  rw [cells32] at hl
  match cs, hl with
  | [c0, c1, c2, c3], _ =>
    rw [cells3] at h0 h1 h2
    rw [cells2] at h3
    obtain ⟨a, e0, i0⟩ := int_cells h0
    obtain ⟨b, e1, i1⟩ := int_cells h1
    obtain ⟨c, e2, i2⟩ := int_cells h2
    obtain ⟨d, e3, i3⟩ := int2_cells h3
    simp at e0 e1 e2 e3
    exact ⟨⟨a, b, c, d⟩, by rw [e0, e1, e2, e3]; rfl, i0, i1, i2, i3⟩

end

set_option maxHeartbeats 4000000 in
theorem drops_walk (a : Option Addr) (cap : Nat) (l : List Ask) (h : Int) (hh : I64 h) (w : World) (hC : Came w a 4 ask4 l) (hI : ∀ x ∈ l, askI x) :
    Calls Tryz.prog 6 #[.slice a l.length cap, .int .i64 h] w fun e w' => e = .returned (.bool true) ∧ Below w.heap.size w w' := by
  have HC := hid hC
  have HI := hid hI
  have WI := hid (within_eq h hh 1 (by decide) (by decide))
  have h01 := winI_le h 0 1 (by decide)
  have H01 : Hid (winI h 0 1 = 0 ∨ winI h 0 1 = 1) := hid (by omega)
  generalize winI h 0 1 = k at WI H01
  clear hC hI hh h01
  go_enter Tryz.func6, Tryz.ntmps6
  go_wp2_with fail
  refine (freshV 200 w).mono ?_
  rintro e w1 ⟨pw, rfl, s1⟩
  rw [show most0 200 = 200 from rfl] at s1
  have S1 := hid s1
  clear s1
  go_wp2
  go_loopw [6] (fun iv wr => ∃ (i : Nat), iv = .int .i64 i ∧ i ≤ 50 ∧ Hid (Sv (Fm.of w) wr pw 200 (50000 * i) i i)) (fun iv _ => 50 - (intOf iv).toNat)
  case atStart => exact ⟨0, rfl, by decide, S1⟩
  case round =>
    clear S1
    obtain ⟨i, rfl, hi, hS⟩ := hrel
    rcases (by omega : (i < l.length ∧ i < 50) ∨ ((l.length ≤ i) ∨ (i < l.length ∧ 50 ≤ i))) with hh | hh
    · obtain ⟨hh1, hh2⟩ := hh
      have hx : l[i]? = some l[i] := List.getElem?_eq_getElem hh1
      have hq := HI.out l[i] (List.getElem_mem hh1)
      obtain ⟨b0, off, ee, hb0, hc0⟩ := HC.out.get hS.out.bel hx
      subst ee
      generalize l[i] = y at hx hc0 hq
      have DO := hid (doV (w0 := Fm.of w) (w := wr) (pw := pw) (N := 200) (K := 50000 * i) (b := i) (c := i) y hq hS.out (by omega) (by omega) (by omega) (by omega))
      obtain ⟨kd, qh, qi, qk⟩ := y
      have d0 : wr.cell? ⟨b0, off + i * 4, none⟩ = some (.int .i64 kd) := by simpa [ask4] using hc0 0 (by decide)
      have d1 : wr.cell? ⟨b0, off + i * 4 + 1, none⟩ = some (.int .i64 qh) := by simpa [ask4, Nat.add_assoc] using hc0 1 (by decide)
      have d2 : wr.cell? ⟨b0, off + i * 4 + 2, none⟩ = some (.int .i64 qi) := by simpa [ask4, Nat.add_assoc] using hc0 2 (by decide)
      have d3 : wr.cell? ⟨b0, off + i * 4 + 3, none⟩ = some (.int .i64 qk) := by simpa [ask4, Nat.add_assoc] using hc0 3 (by decide)
      have hh1' : (i : Int) < (l.length : Int) := by omega
      have hh2' : (i : Int) < 50 := by omega
      clear hx hc0 hh1 hq
      go_wp2_with fail
      refine DO.out.mono ?_
      rintro e w2 ⟨rfl, s2⟩
      have S2 := hid (s2.mono (K' := 50000 * (i + 1)) (by omega) (Nat.le_refl _) (Nat.le_refl _))
      clear s2 DO d0 d1 d2 d3
      go_wp2
      go_roundw
      case rel => exact ⟨i + 1, by go_num, by omega, S2⟩
      case measure => simp [intOf]; omega
    · have hout : ((i : Int) < (l.length : Int) → ¬ (i : Int) < 50) := by omega
      obtain ⟨L0, L1, nx, hlen, _, _, hs⟩ := hS.out
      clear hS HC HI
      by_cases c1 : (i : Int) < (l.length : Int)
      · have c2 := hout c1
        clear hout hh
        go_wp2_with fail
        refine (WI.out _).mono ?_
        rintro e w7 ⟨rfl, rfl⟩
        rcases H01.out with rfl | rfl
        · skip
          have C2 := hid (drop0S hs (by omega) (by omega))
          clear hs
          go_wp2_with fail
          refine C2.out.mono ?_
          rintro e w2 ⟨rfl, s2⟩
          have S2 := hid s2
          clear s2 C2
          have C3 := hid (rightS S2.out (by first | omega | simp) (by first | omega | simp) (by omega))
          go_wp2_with fail
          refine C3.out.mono ?_
          rintro e w3 ⟨rfl, s3⟩
          have S3 := hid s3
          clear s3 C3 S2
          obtain ⟨h3, v0, v1, P, c3, c4, l0, l1⟩ := S3.out.has
          obtain ⟨va, vc, rfl⟩ := l0.form
          have HN := hid (show ((([] : List (Nat × Int × Int)).length : Nat) : Int) = 0 from rfl)
          simp only [List.length_nil] at c3
          clear l0 l1
          have C4 := hid (drop1S S3.out (by omega) (by omega))
          go_wp2_with fail
          refine C4.out.mono ?_
          rintro e w4 ⟨rfl, s4⟩
          have S4 := hid s4
          clear s4 C4 S3 c3 c4 h3
          obtain ⟨pa, hl0, c0, ln⟩ := S4.out.len
          have LN := hid ln
          have B4 := hid S4.out.bel
          clear ln S4
          go_wp2_with fail
          refine (LN.out _ (Kept.refl _ _)).mono ?_
          rintro e w5 ⟨rfl, m, rfl⟩
          simp only [List.length_nil, Nat.add_zero, Nat.mul_zero]
          go_wp2_with fail
          refine (known_any _).mono ?_
          rintro e w6 ⟨rfl, b6⟩
          have B6 := hid ((below_drewN B4.out m).trans (b6.mono B4.out.size))
          clear b6
          go_wp2
          go_ret
          exact ⟨rfl, B6.out⟩
        · skip
          have C2 := hid (drop1S hs (by omega) (by omega))
          clear hs
          go_wp2_with fail
          refine C2.out.mono ?_
          rintro e w2 ⟨rfl, s2⟩
          have S2 := hid s2
          clear s2 C2
          have C3 := hid (rightS S2.out (by first | omega | simp) (by first | omega | simp) (by omega))
          go_wp2_with fail
          refine C3.out.mono ?_
          rintro e w3 ⟨rfl, s3⟩
          have S3 := hid s3
          clear s3 C3 S2
          obtain ⟨h3, v0, v1, P, c3, c4, l0, l1⟩ := S3.out.has
          obtain ⟨va, vc, rfl⟩ := l1.form
          have HN := hid (show ((([] : List (Nat × Int × Int)).length : Nat) : Int) = 0 from rfl)
          simp only [List.length_nil] at c4
          clear l0 l1
          have C4 := hid (drop0S S3.out (by omega) (by omega))
          go_wp2_with fail
          refine C4.out.mono ?_
          rintro e w4 ⟨rfl, s4⟩
          have S4 := hid s4
          clear s4 C4 S3 c3 c4 h3
          obtain ⟨pa, hl0, c0, ln⟩ := S4.out.len
          have LN := hid ln
          have B4 := hid S4.out.bel
          clear ln S4
          go_wp2_with fail
          refine (LN.out _ (Kept.refl _ _)).mono ?_
          rintro e w5 ⟨rfl, m, rfl⟩
          simp only [List.length_nil, Nat.add_zero, Nat.mul_zero]
          go_wp2_with fail
          refine (known_any _).mono ?_
          rintro e w6 ⟨rfl, b6⟩
          have B6 := hid ((below_drewN B4.out m).trans (b6.mono B4.out.size))
          clear b6
          go_wp2
          go_ret
          exact ⟨rfl, B6.out⟩
      · clear hout hh
        go_wp2_with fail
        refine (WI.out _).mono ?_
        rintro e w7 ⟨rfl, rfl⟩
        rcases H01.out with rfl | rfl
        · skip
          have C2 := hid (drop0S hs (by omega) (by omega))
          clear hs
          go_wp2_with fail
          refine C2.out.mono ?_
          rintro e w2 ⟨rfl, s2⟩
          have S2 := hid s2
          clear s2 C2
          have C3 := hid (rightS S2.out (by first | omega | simp) (by first | omega | simp) (by omega))
          go_wp2_with fail
          refine C3.out.mono ?_
          rintro e w3 ⟨rfl, s3⟩
          have S3 := hid s3
          clear s3 C3 S2
          obtain ⟨h3, v0, v1, P, c3, c4, l0, l1⟩ := S3.out.has
          obtain ⟨va, vc, rfl⟩ := l0.form
          have HN := hid (show ((([] : List (Nat × Int × Int)).length : Nat) : Int) = 0 from rfl)
          simp only [List.length_nil] at c3
          clear l0 l1
          have C4 := hid (drop1S S3.out (by omega) (by omega))
          go_wp2_with fail
          refine C4.out.mono ?_
          rintro e w4 ⟨rfl, s4⟩
          have S4 := hid s4
          clear s4 C4 S3 c3 c4 h3
          obtain ⟨pa, hl0, c0, ln⟩ := S4.out.len
          have LN := hid ln
          have B4 := hid S4.out.bel
          clear ln S4
          go_wp2_with fail
          refine (LN.out _ (Kept.refl _ _)).mono ?_
          rintro e w5 ⟨rfl, m, rfl⟩
          simp only [List.length_nil, Nat.add_zero, Nat.mul_zero]
          go_wp2_with fail
          refine (known_any _).mono ?_
          rintro e w6 ⟨rfl, b6⟩
          have B6 := hid ((below_drewN B4.out m).trans (b6.mono B4.out.size))
          clear b6
          go_wp2
          go_ret
          exact ⟨rfl, B6.out⟩
        · skip
          have C2 := hid (drop1S hs (by omega) (by omega))
          clear hs
          go_wp2_with fail
          refine C2.out.mono ?_
          rintro e w2 ⟨rfl, s2⟩
          have S2 := hid s2
          clear s2 C2
          have C3 := hid (rightS S2.out (by first | omega | simp) (by first | omega | simp) (by omega))
          go_wp2_with fail
          refine C3.out.mono ?_
          rintro e w3 ⟨rfl, s3⟩
          have S3 := hid s3
          clear s3 C3 S2
          obtain ⟨h3, v0, v1, P, c3, c4, l0, l1⟩ := S3.out.has
          obtain ⟨va, vc, rfl⟩ := l1.form
          have HN := hid (show ((([] : List (Nat × Int × Int)).length : Nat) : Int) = 0 from rfl)
          simp only [List.length_nil] at c4
          clear l0 l1
          have C4 := hid (drop0S S3.out (by omega) (by omega))
          go_wp2_with fail
          refine C4.out.mono ?_
          rintro e w4 ⟨rfl, s4⟩
          have S4 := hid s4
          clear s4 C4 S3 c3 c4 h3
          obtain ⟨pa, hl0, c0, ln⟩ := S4.out.len
          have LN := hid ln
          have B4 := hid S4.out.bel
          clear ln S4
          go_wp2_with fail
          refine (LN.out _ (Kept.refl _ _)).mono ?_
          rintro e w5 ⟨rfl, m, rfl⟩
          simp only [List.length_nil, Nat.add_zero, Nat.mul_zero]
          go_wp2_with fail
          refine (known_any _).mono ?_
          rintro e w6 ⟨rfl, b6⟩
          have B6 := hid ((below_drewN B4.out m).trans (b6.mono B4.out.size))
          clear b6
          go_wp2
          go_ret
          exact ⟨rfl, B6.out⟩
end Go.Proofs.YthfdooigljkfiaaGreat
