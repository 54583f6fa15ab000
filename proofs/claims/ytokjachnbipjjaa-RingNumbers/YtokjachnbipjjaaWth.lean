/- The walks of the laws' Within and of some of the chapter's runs. -/
import Derived.Test.YtokjachnbipjjaaHdI
namespace Go.Proofs.Ytokjachnbipjjaa
open Go.ChangeShapes Go.WideShapes Go.ChangeAt Go.RowKit

def I64 (x : Int) : Prop := -9223372036854775808 ≤ x ∧ x ≤ 9223372036854775807
theorem i64_of_wf {x : Int} (h : (Lit.int .i64 x).wf = true) : I64 x := by
  simp [Lit.wf, IntKind.min, IntKind.max, IntKind.signed, IntKind.bits] at h
  exact ⟨by omega, by omega⟩

theorem tmod_bounds (n : Int) {k : Int} (hk : 0 < k) : -k < n.tmod k ∧ n.tmod k < k := by
  constructor
  · have h2 := Int.lt_tmod_of_pos n hk; omega
  · exact Int.tmod_lt_of_pos n hk

set_option maxHeartbeats 1000000 in
theorem within_any (n : Int) (hn : I64 n) (lo hi : Nat) (hlh : lo ≤ hi) (hh : hi ≤ 1000) (w : World) :
    Calls Try.prog 11 #[.int .i64 n, .int .i64 lo, .int .i64 hi] w fun e w' => ∃ r : Nat, e = .returned (.int .i64 r) ∧ lo ≤ r ∧ r ≤ hi ∧ w' = w := by
  obtain ⟨h1, h2⟩ := hn
  by_cases c1 : (lo : Int) ≤ n
  · by_cases c2 : n ≤ (hi : Int)
    · go_enter Try.func11, Try.ntmps11
      go_wp2
      go_ret
      exact ⟨n.toNat, ret_int (by omega), by omega, by omega, rfl⟩
    · obtain ⟨d, hd⟩ : ∃ d : Nat, (hi : Int) - (lo : Int) = d := ⟨hi - lo, by omega⟩
      have hwd : IntKind.i64.wrap ((d : Int) + 1) = (d : Int) + 1 := IntWalk.i64_in _ (by omega)
      have hne : ¬ ((d : Int) + 1 = 0) := by omega
      obtain ⟨t1, t2⟩ := tmod_bounds n (k := (d : Int) + 1) (by omega)
      have hnn : 0 ≤ n.tmod ((d : Int) + 1) := Int.tmod_nonneg _ (by omega)
      have HD := hid hd
      have c2' : decide (n ≤ (hi : Int)) = false := by simp; omega
      obtain ⟨t, ht⟩ : ∃ t : Int, n.tmod ((d : Int) + 1) = t := ⟨_, rfl⟩
      rw [ht] at t1 t2 hnn
      go_enter Try.func11, Try.ntmps11
      go_wp2
      go_ret
      exact ⟨lo + t.toNat, ret_int (by omega), by omega, by omega, rfl⟩
  · obtain ⟨d, hd⟩ : ∃ d : Nat, (hi : Int) - (lo : Int) = d := ⟨hi - lo, by omega⟩
    have hwd : IntKind.i64.wrap ((d : Int) + 1) = (d : Int) + 1 := IntWalk.i64_in _ (by omega)
    have hne : ¬ ((d : Int) + 1 = 0) := by omega
    obtain ⟨t1, t2⟩ := tmod_bounds n (k := (d : Int) + 1) (by omega)
    have c1' : decide ((lo : Int) ≤ n) = false := by simp; omega
    obtain ⟨t, ht⟩ : ∃ t : Int, n.tmod ((d : Int) + 1) = t := ⟨_, rfl⟩
    rw [ht] at t1 t2
    by_cases c3 : t < 0
    · go_enter Try.func11, Try.ntmps11
      go_wp2
      go_ret
      exact ⟨(lo + (t + hi - lo + 1)).toNat, ret_int (by omega), by omega, by omega, rfl⟩
    · have c3' : decide (t < 0) = false := by simp; omega
      go_enter Try.func11, Try.ntmps11
      go_wp2
      go_ret
      exact ⟨(lo + t).toNat, ret_int (by omega), by omega, by omega, rfl⟩

theorem knew (w : World) (o : Obj) : Kept (fun _ => False) w (w.alloc o) := (Kept.refl _ _).alloc o

set_option maxHeartbeats 2000000 in
theorem known_any (w : World) : Calls Try.prog 10 #[] w fun e w' => e = .returned (.bool true) ∧ Below w.heap.size w w' := by
  go_enter Try.func10, Try.ntmps10
  go_wp2_with fail
  refine (newIH 1 w).mono ?_
  rintro e w1 ⟨F1, pa, rfl, h1⟩
  rw [show room0 1 = 1 from rfl] at h1
  have H1 := hid h1
  clear h1
  go_wp2_with fail
  refine (pushIH 5 H1.out).mono ?_
  rintro e w2 ⟨rfl, h2, -⟩
  rw [if_pos (by decide)] at h2
  generalize Grow F1 w1 w2 = F2 at h2
  have H2 := hid h2
  clear h2 H1
  go_wp2_with fail
  refine (pushIH 6 H2.out).mono ?_
  rintro e w3 ⟨rfl, h3, -⟩
  rw [if_neg (by decide)] at h3
  generalize Grow F2 w2 w3 = F3 at h3
  have H3 := hid h3
  clear h3 H2
  go_wp2_with fail
  refine (popIH (x := 5) (l := []) H3.out).mono ?_
  rintro e w4 ⟨rfl, h4, -⟩
  generalize Grow F3 w3 w4 = F4 at h4
  have H4 := hid h4
  clear h4 H3
  go_wp2_with fail
  refine (popNilI pa 1 F4 w4 H4.out.is).mono ?_
  rintro e w5 ⟨rfl, rfl⟩
  go_wp2_with fail
  refine (roomI pa 1 [] F4 w5 H4.out.is).mono ?_
  rintro e w6 ⟨rfl, n, rfl⟩
  have BL := hid H4.out.bel
  clear H4
  go_wp2
  go_ret
  exact ⟨rfl, below_drewN BL.out n⟩
end Go.Proofs.Ytokjachnbipjjaa
