/- The laws' known: some of the chapter's runs. -/
import Derived.Test.YthfdooigljkfiabRi
import Derived.Test.YthfdooigljkfiabGk
import Derived.Test.YthfdooigljkfiabPu
import Derived.Test.YthfdooigljkfiabGi
namespace Go.Proofs.Ythfdooigljkfiab
open Go.ChangeShapes Go.WideShapes Go.ChangeAt Go.RowKit
open Tr

theorem rightS {w0 : Fm} {w : World} {pw N K : Nat} {L0 L1 : List (Nat × Int × Int)} {nx : Int} (h : Sit w0 w pw N K L0 L1 nx) (hl0 : L0.length ≤ 700) (hl1 : L1.length ≤ 700) (hK : K ≤ 60000000) :
    Calls Try.prog 11 #[.pointer (some ⟨pw, 0, none⟩)] w fun e w' => e = .returned (.bool true) ∧ Sit w0 w' pw N (K + 86000) L0 L1 nx := by
  obtain ⟨F, pa, pm, v0, v1, s, t, u, sp, mo, hw, hi, hk, hm⟩ := h
  refine (rightW sp mo (pot s t u) hw hi hl0 hl1 (by omega) (by omega) (by omega)).mono ?_
  rintro e w1 ⟨rfl, k, sp', mo', hk', hsp', hmo', h1⟩
  exact ⟨rfl, F, pa, pm, v0, v1, tk s k, t, u, sp', mo', h1, hi.tk k, by show s.steps + k + pot s t u ≤ _ ∧ sp' + pot s t u ≤ _ ∧ _; omega, hm⟩
theorem pop3 (a b c : Nat) : popL [(a, 3, 0), (b, 1, 1), (c, 2, 2)] = [(a, 3, 0), (c, 2, 2)] := by simp [popL, lstS, befH, bef]
theorem pop2 (a c : Nat) : popL [(a, 3, 0), (c, 2, 2)] = [(a, 3, 0)] := by simp [popL, lstS, befH, bef]
theorem pop1' (a : Nat) : popL [(a, 3, 0)] = [] := by simp [popL, lstS]

set_option maxHeartbeats 2000000 in
theorem known_any (w : World) : Calls Try.prog 13 #[] w fun e w' => e = .returned (.bool true) ∧ Below w.heap.size w w' := by
  go_enter Try.func13, Try.ntmps13
  go_wp2_with fail
  refine (freshW 8 w).mono ?_
  rintro e w1 ⟨pw, rfl, s1⟩
  rw [show most0 8 = 8 from rfl] at s1
  have S1 := hid s1
  clear s1
  go_wp2_with fail
  refine (push0 S1.out (by simp) (by simp) (by decide) (by decide) 3).mono ?_
  rintro e w2 ⟨rfl, a, s2⟩
  have S2 := hid s2
  clear s2 S1
  go_wp2_with fail
  refine (push0 S2.out (by simp) (by simp) (by decide) (by decide) 1).mono ?_
  rintro e w3 ⟨rfl, b, s3⟩
  have S3 := hid s3
  clear s3 S2
  go_wp2_with fail
  refine (push0 S3.out (by simp) (by simp) (by decide) (by decide) 2).mono ?_
  rintro e w4 ⟨rfl, c, s4⟩
  have S4 : Hid (Sit (Fm.of w) w4 pw 8 4500 [(a, 3, 0), (b, 1, 1), (c, 2, 2)] [] 3) := s4
  clear s4 S3
  go_wp2_with fail
  refine (rightS S4.out (by simp) (by simp) (by decide)).mono ?_
  rintro e w5 ⟨rfl, s5⟩
  have S5 := hid s5
  obtain ⟨h5, v0, v1, P, c3, _, l0, _⟩ := s5.has
  obtain ⟨va, vc, rfl⟩ := l0.form
  clear s5 S4 l0
  go_wp2_with fail
  refine (pop0S S5.out (by simp) (by decide)).mono ?_
  rw [pop3]
  rintro e w6 ⟨rfl, s6⟩
  have S6 := hid s6
  clear s6 S5 c3 h5
  go_wp2_with fail
  refine (pop0S S6.out (by simp) (by decide)).mono ?_
  rw [pop2]
  rintro e w7 ⟨rfl, s7⟩
  have S7 := hid s7
  obtain ⟨h7, v0, v1, P, c3, _, l0, _⟩ := s7.has
  obtain ⟨b7, cap7, rfl, _, hb7, _, x1, x2, x3⟩ := l0.at (i := 0) (x := (a, 3, 0)) rfl
  simp only [Nat.zero_mul, Nat.zero_add, List.length_cons, List.length_nil] at c3 x1 x2 x3
  clear s7 S6 l0 x1 x3
  go_wp2_with fail
  refine (pop0S S7.out (by simp) (by decide)).mono ?_
  rw [pop1']
  rintro e w8 ⟨rfl, s8⟩
  have S8 := hid s8
  clear s8 S7 c3 x2 h7
  go_wp2_with fail
  refine (pop0S S8.out (by simp) (by decide)).mono ?_
  rintro e w9 ⟨rfl, s9⟩
  have S9 := hid s9.bel
  clear s9 S8
  go_wp2
  go_ret
  exact ⟨rfl, S9.out⟩
end Go.Proofs.Ythfdooigljkfiab
