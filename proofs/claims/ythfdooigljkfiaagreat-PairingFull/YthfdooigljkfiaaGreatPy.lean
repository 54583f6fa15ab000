/- The walk of play: one call behind the other. -/
import Derived.Test.YthfdooigljkfiaaGreatDd
namespace Go.Proofs.YthfdooigljkfiaaGreat
open Go.ChangeShapes Go.WideShapes Go.ChangeAt Go.RowKit
open Tr

set_option maxHeartbeats 2000000 in
theorem play_walk (a : Option Addr) (cap : Nat) (l : List Ask) (w : World) (hC : Came w a 4 ask4 l) (hI : ∀ x ∈ l, askI x) :
    Calls Tryz.prog 17 #[.int .i64 200, .slice a l.length cap, .int .i64 70] w fun e w' => e = .returned (.bool true) ∧ Below w.heap.size w w' := by
  have HC := hid hC
  have HI := hid hI
  clear hC hI
  go_enter Tryz.func17, Tryz.ntmps17
  go_wp2_with fail
  refine (freshV 200 w).mono ?_
  rintro e w1 ⟨pw, rfl, s1⟩
  rw [show most0 200 = 200 from rfl] at s1
  have S1 := hid s1
  clear s1
  go_wp2
  go_loopw [8] (fun iv wr => ∃ (i : Nat), iv = .int .i64 i ∧ i ≤ 70 ∧ Hid (Sv (Fm.of w) wr pw 200 (136000 * i) i i)) (fun iv _ => 70 - (intOf iv).toNat)
  case atStart => exact ⟨0, rfl, by decide, S1⟩
  case round =>
    clear S1
    obtain ⟨i, rfl, hi, hS⟩ := hrel
    rcases (by omega : (i < l.length ∧ i < 70) ∨ ((l.length ≤ i) ∨ (i < l.length ∧ 70 ≤ i))) with hh | hh
    · obtain ⟨hh1, hh2⟩ := hh
      have hx : l[i]? = some l[i] := List.getElem?_eq_getElem hh1
      have hq := HI.out l[i] (List.getElem_mem hh1)
      obtain ⟨b0, off, ee, hb0, hc0⟩ := HC.out.get hS.out.bel hx
      subst ee
      generalize l[i] = y at hx hc0 hq
      have HQ := hid hq
      have DO := hid (doV (w0 := Fm.of w) (w := wr) (pw := pw) (N := 200) (K := 136000 * i) (b := i) (c := i) y hq hS.out (by omega) (by omega) (by omega) (by omega))
      obtain ⟨kd, qh, qi, qk⟩ := y
      have d0 : wr.cell? ⟨b0, off + i * 4, none⟩ = some (.int .i64 kd) := by simpa [ask4] using hc0 0 (by decide)
      have d1 : wr.cell? ⟨b0, off + i * 4 + 1, none⟩ = some (.int .i64 qh) := by simpa [ask4, Nat.add_assoc] using hc0 1 (by decide)
      have d2 : wr.cell? ⟨b0, off + i * 4 + 2, none⟩ = some (.int .i64 qi) := by simpa [ask4, Nat.add_assoc] using hc0 2 (by decide)
      have d3 : wr.cell? ⟨b0, off + i * 4 + 3, none⟩ = some (.int .i64 qk) := by simpa [ask4, Nat.add_assoc] using hc0 3 (by decide)
      have hh1' : (i : Int) < (l.length : Int) := by omega
      have hh2' : (i : Int) < 70 := by omega
      clear hx hc0 hh1 hq
      go_wp2_with fail
      refine DO.out.mono ?_
      rintro e w2 ⟨rfl, s2⟩
      have S2 := hid s2
      clear s2 DO d0 d1 d2 d3
      go_wp2_with fail
      refine (rightV S2.out (by omega) (by omega)).mono ?_
      rintro e w3 ⟨rfl, s3⟩
      have S3 := hid (s3.mono (K' := 136000 * (i + 1)) (by omega) (Nat.le_refl _) (Nat.le_refl _))
      clear s3 S2
      go_wp2
      go_roundw
      case rel => exact ⟨i + 1, by go_num, by omega, S3⟩
      case measure => simp [intOf]; omega
    · have hout : ((i : Int) < (l.length : Int) → ¬ (i : Int) < 70) := by omega
      have B := hid hS.out.bel
      clear hS HC HI
      by_cases c1 : (i : Int) < (l.length : Int)
      · have c2 := hout c1
        clear hout hh
        go_wp2
        go_ret
        exact ⟨rfl, B.out⟩
      · clear hout hh
        go_wp2
        go_ret
        exact ⟨rfl, B.out⟩
end Go.Proofs.YthfdooigljkfiaaGreat
