/- The walk of the laws' own comparing of a list's answers with the document's: Least, Sorted, Sort: it answers true. -/
import Derived.Test.YtjjahhiaelaocaaRs2
namespace Go.Proofs.Ytjjahhiaelaocaa
open Go.ChangeShapes Go.WideShapes Go.ChangeAt Go.RowKit

theorem refSort_every (a : Option Addr) (cap : Nat) (l : List (Int × Int)) (w : World) (hl : l.length ≤ 1000) (hE : Ents w a l) :
    Calls Try.prog 30 #[.slice a l.length cap] w fun e w' => ∃ v m, e = .returned v ∧ m.Perm l ∧ SortedOn m 0 l.length ∧ w'.ownsRow w.heap.size 26 2 v m.length (flat m) ∧ Below w.heap.size w w' := by
  rcases hE with rfl | ⟨b, off, rfl, hb, hr⟩
  · go_enter Try.func30, Try.ntmps30
    go_wp2
    go_loopw [3, 4] (fun ov iv wr => ov = .slice none 0 0 ∧ iv = .int .i64 0 ∧ wr = w) (fun _ _ _ => 0)
    case atStart => exact ⟨rfl, rfl, rfl⟩
    case round =>
      obtain ⟨rfl, rfl, rfl⟩ := hrel
      go_wp2
      go_ret
      exact ⟨_, [], rfl, List.Perm.refl _, sortedOn_short (by simp), ⟨rfl, Or.inl ⟨rfl, rfl⟩⟩, Below.refl _ _⟩
  · exact refSort_any b off cap l w hb hl hr

set_option maxHeartbeats 2000000 in
theorem list_any (a : Option Addr) (cap : Nat) (l : List (Int × Int)) (w : World) (hl : l.length ≤ 1000) (hE : Ents w a l) :
    Calls Try.prog 8 #[.slice a l.length cap] w fun e w' => e = .returned (.bool true) ∧ Below w.heap.size w w' := by
  have hb1 : (decide (0 < l.length) == decide (0 < l.length)) = true := by simp
  have hb2 : (srt l == srt l) = true := by simp
  have c1 := fun W (h : Ents W a l) => least_every a cap l W (by omega) h
  have c2 := fun W (h : Ents W a l) => refLeast_any a cap l W (by omega) h
  have c3 := fun W (h : Ents W a l) => sorted_any a cap l W (by omega) h
  have c4 := fun W (h : Ents W a l) => refSorted_any a cap l W (by omega) h
  generalize leastS l l.length = k at c1 c2
  generalize decide (0 < l.length) = p at c1 c2 hb1
  generalize srt l = q at c3 c4 hb2
  have C1 := hid c1
  have C2 := hid c2
  have C3 := hid c3
  have C4 := hid c4
  have HE := hid hE
  clear c1 c2 c3 c4 hE
  go_enter Try.func8, Try.ntmps8
  go_wp2_with fail
  refine (C1.out _ HE.out).mono ?_
  rintro e w1 ⟨rfl, B1⟩
  have HE1 := hid (HE.out.below (Nat.le_refl _) B1)
  have BL1 := hid B1
  clear B1
  go_wp2_with fail
  refine (C2.out _ HE1.out).mono ?_
  rintro e w2 ⟨rfl, B2⟩
  have HE2 := hid (HE1.out.below (Nat.le_refl _) B2)
  have BL2 := hid (BL1.out.trans (B2.mono BL1.out.size))
  clear B2
  go_wp2_with fail
  refine (C3.out _ HE2.out).mono ?_
  rintro e w3 ⟨rfl, B3⟩
  have HE3 := hid (HE2.out.below (Nat.le_refl _) B3)
  have BL3 := hid (BL2.out.trans (B3.mono BL2.out.size))
  clear B3
  go_wp2_with fail
  refine (C4.out _ HE3.out).mono ?_
  rintro e w4 ⟨rfl, B4⟩
  have HE4 := hid (HE3.out.below (Nat.le_refl _) B4)
  have BL4 := hid (BL3.out.trans (B4.mono BL3.out.size))
  clear B4
  go_wp2_with fail
  refine (sort_any a cap l _ (by omega) HE4.out).mono ?_
  rintro e w5 ⟨rfl, s, hs1, hs2, hs3, B5⟩
  have HE5 := hid (HE4.out.below (Nat.le_refl _) B5)
  have BL5 := hid (BL4.out.trans (B5.mono BL4.out.size))
  have ES : Hid (Ents w5 (some ⟨w4.heap.size, 0, none⟩) s) := Or.inr ⟨_, _, rfl, hs3.lt, hs3.row⟩
  have S1 := hid hs1
  have S2 := hid hs2
  clear B5 hs1 hs2 hs3
  go_wp2_with fail
  refine (refSort_every a cap l _ hl HE5.out).mono ?_
  rintro e w6 ⟨v, m, rfl, hm1, hm2, hm3, B6⟩
  have ES6 := hid (ES.out.below (Nat.le_refl _) B6)
  have BL6 := hid (BL5.out.trans (B6.mono BL5.out.size))
  obtain ⟨am, cm, rfl, EM, _⟩ := own_ents hm3
  have hml : m.length = l.length := hm1.length_eq
  have hsm : s = m := sorted_unique (S1.out.perm.trans hm1.symm) (by rw [S1.out.len]; exact S2.out) (by rw [hml]; exact hm2)
  have hc := same_any (some ⟨w4.heap.size, 0, none⟩) am l.length cm s w6 (by rw [S1.out.len]; omega) ES6.out (by rw [hsm]; exact EM)
  rw [S1.out.len] at hc
  rw [hml]
  have HC := hid hc
  clear hc hsm hml hm1 hm2 hm3 EM B6
  go_wp2_with fail
  refine HC.out.mono ?_
  rintro e w7 ⟨rfl, n, rfl⟩
  go_wp2
  go_ret
  exact ⟨rfl, BL6.out.trans (below_drewN _ _)⟩
end Go.Proofs.Ytjjahhiaelaocaa
