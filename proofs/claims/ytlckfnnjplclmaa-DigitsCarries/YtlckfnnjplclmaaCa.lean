/- The walk of DigitsCarries. -/
import Derived.Test.YtlckfnnjplclmaaKn
namespace Go.Proofs.Ytlckfnnjplclmaa
open Go.ChangeShapes Go.WideShapes Go.ChangeAt Go.RowKit

set_option maxHeartbeats 4000000 in
theorem carries_walk (n : Int) (hn : I64 n) (w : World) : Calls Try.prog 5 #[.int .i64 n] w fun e w' => e = .returned (.bool true) ∧ Below w.heap.size w w' := by
  go_enter Try.func5, Try.ntmps5
  go_wp2_with fail
  refine (newC w).mono ?_
  rintro e w1 ⟨p, rfl, i1, b1⟩
  have I1 := hid i1
  have B1 := hid b1
  clear i1 b1
  go_wp2_with fail
  refine (within1 n hn 3000 (by omega) (by omega) w1).mono ?_
  rintro e w2 ⟨k, rfl, hk1, hk, rfl⟩
  go_wp2
  go_loopw [5] (fun iv wr => ∃ (m : Nat) (F : Nat → Prop), iv = .int .i64 ((m : Int) + 1) ∧ m ≤ k ∧ Hid (IsC wr F p (tn m) (cs m)) ∧ Hid (∀ b, F b → w.heap.size ≤ b) ∧ Hid (Below w.heap.size w wr)) (fun iv _ => k + 1 - (intOf iv).toNat)
  case atStart => exact ⟨0, _, rfl, by omega, I1, hid (fun b e => by subst e; exact Nat.le_refl _), B1⟩
  case round =>
    obtain ⟨m, F, rfl, hm, HI, HF, HB⟩ := hrel
    clear I1 B1
    by_cases hlt : m < k
    · have hlt' : (m : Int) + 1 ≤ (k : Int) := by omega
      go_wp2_with fail
      refine (carries_any p _ _ F wr HI.out).mono ?_
      rintro e w3 ⟨rfl, rfl⟩
      go_wp2_with fail
      refine (incN p m F w3 HI.out (by omega)).mono ?_
      rintro e w4 ⟨rfl, i4, k4⟩
      have I4 := hid i4
      have B4 := hid (kept_below HB.out HF.out k4)
      have F4 := hid (grow_ge (w' := w4) HB.out.size HF.out)
      clear i4 k4 HI HB
      go_wp2_with fail
      refine (all_any p _ _ _ w4 I4.out (by have := tn_len (m + 1) (by omega); omega)).mono ?_
      rintro e w5 ⟨v5, rfl, o5, b5⟩
      have L5 := hid o5.lst
      have I5 := hid (I4.out.below b5)
      have B5 := hid (trans_below B4.out b5)
      clear o5 b5 I4 B4
      obtain ⟨q, hq⟩ : ∃ q, q = cq (tn m) := ⟨_, rfl⟩
      obtain ⟨s, hs⟩ : ∃ s, s = cs m := ⟨_, rfl⟩
      have q1 : q ≤ 1 := by rw [hq]; exact cq_le _
      have s1 : s ≤ m := by rw [hs]; exact cs_le _
      have CA := hid (carries_any p _ _ _ w5 I5.out)
      rw [show cs (m + 1) = s + q by rw [hs, hq]; rfl] at CA
      have VA := hid (value_any p _ _ _ w5 I5.out (by have := tn_len (m + 1) (by omega); omega))
      rw [vb_tn (by omega)] at VA
      have RA := hid (reg_any v5 _ w5 L5.out (by have := tn_len (m + 1) (by omega); omega))
      rw [tn_rgB (m + 1) (by omega)] at RA
      obtain ⟨t1, t2⟩ := tn_bits (m + 1) (by omega)
      have t3 := tn_len (m + 1) (by omega)
      obtain ⟨a5, c5, rfl, _⟩ := L5.out
      obtain ⟨j, hj⟩ : ∃ j, (tn (m + 1)).length = j + 1 := ⟨(tn (m + 1)).length - 1, by omega⟩
      rw [hj] at t1 t2 t3 RA ⊢
      rw [← hq, ← hs]
      have d1 : decide ((q : Int) < 0) = false := by simp
      have d2 : decide (1 < (q : Int)) = false := by simp; omega
      clear hq hs hj L5
      go_wp2_with fail
      refine CA.out.mono ?_
      rintro e w6 ⟨rfl, rfl⟩
      have d3 : (((s + q : Nat) : Int) != (s : Int) + (q : Int)) = false := by simp
      go_wp2_with fail
      refine VA.out.mono ?_
      rintro e w7 ⟨rfl, rfl⟩
      have d4 : (((m + 1 : Nat) : Int) != (m : Int) + 1) = false := by simp
      go_wp2_with fail
      refine RA.out.mono ?_
      rintro e w8 ⟨rfl, rfl⟩
      have d5 : decide ((j : Int) + 1 < 1) = false := by simp; omega
      have d6 : decide (40 < (j : Int) + 1) = false := by simp; omega
      have d7 : (((m : Int) + 1) / 2 ^ j == 0) = false := by
        have hp := p0 j
        have h2 : (2 : Int) ^ j = ((2 ^ j : Nat) : Int) := by simp
        have h3 : (1 : Int) * 2 ^ j ≤ (m : Int) + 1 := by rw [h2]; simp at t2; omega
        have := Int.le_ediv_of_mul_le (by omega : (0 : Int) < 2 ^ j) h3
        rw [beq_eq_false_iff_ne]; omega
      go_wp2
      go_roundw
      case rel => exact ⟨m + 1, _, by go_num, by omega, I5, F4, B5⟩
      case measure => simp [intOf]; omega
    · have hlt' : ¬ (m : Int) + 1 ≤ (k : Int) := by omega
      clear HI
      go_wp2_with fail
      refine (known_any wr).mono ?_
      rintro e w9 ⟨rfl, b9⟩
      have B9 := hid (trans_below HB.out b9)
      clear b9
      go_wp2
      go_ret
      exact ⟨rfl, B9.out⟩
end Go.Proofs.Ytlckfnnjplclmaa
