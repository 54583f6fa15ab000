/- The walk of RingWraps. -/
import Derived.Test.YtokjachnbipjjaaWth
import Derived.Test.YtokjachnbipjjaaHdN
namespace Go.Proofs.Ytokjachnbipjjaa
open Go.ChangeShapes Go.WideShapes Go.ChangeAt Go.RowKit

/-- c numbers, one behind the other, the first of them f -/
def upto (f c : Nat) : List Int := (List.range c).map (fun k => ((f + k : Nat) : Int))
theorem upto_len (f c : Nat) : (upto f c).length = c := by simp [upto]
theorem upto_get {f c k : Nat} (h : k < c) : (upto f c)[k]? = some ((f + k : Nat) : Int) := by simp [upto, h]
theorem upto_cons (f c : Nat) : upto f (c + 1) = (f : Int) :: upto (f + 1) c := by
  simp only [upto, List.range_succ_eq_map, List.map_cons, List.map_map, Nat.add_zero]
  congr 1
  apply List.map_congr_left
  intro k _
  simp only [Function.comp]
  omega
theorem upto_snoc (f c : Nat) : upto f (c + 1) = upto f c ++ [((f + c : Nat) : Int)] := by simp [upto, List.range_succ]

set_option maxHeartbeats 4000000 in
theorem wraps_walk (p q : Int) (hp : I64 p) (hq : I64 q) (w : World) :
    Calls Try.prog 6 #[.int .i64 p, .int .i64 q] w fun e w' => e = .returned (.bool true) ∧ Below w.heap.size w w' := by
  go_enter Try.func6, Try.ntmps6
  go_wp2_with fail
  refine (within_any p hp 1 9 (by decide) (by decide) w).mono ?_
  rintro e w1 ⟨n, rfl, hn1, hn2, rfl⟩
  go_wp2_with fail
  refine (newNH n w1).mono ?_
  rintro e w2 ⟨F, pa, rfl, h2⟩
  rw [room0_nat hn1 (by omega)] at h2
  have H2 := hid h2
  clear h2
  go_wp2
  go_loopw [7, 8] (fun fv iv wr => ∃ (f c : Nat) (F : Nat → Prop), fv = .int .i64 f ∧ iv = .int .i64 ((f + c : Nat) : Int) ∧ f + c ≤ 100 ∧ c ≤ n ∧ HoldN w1 wr F pa n (upto f c)) (fun _ i _ => 100 - (intOf i).toNat)
  case atStart => exact ⟨0, 0, F, rfl, rfl, by decide, Nat.zero_le _, H2.out⟩
  case round =>
    clear H2 F
    obtain ⟨f, c, F, rfl, rfl, hfc, hcn, hH⟩ := hrel
    have HH := hid hH
    clear hH
    obtain ⟨i, hi⟩ : ∃ i : Nat, f + c = i := ⟨_, rfl⟩
    rw [hi] at hfc ⊢
    have HI := hid hi
    clear hi
    go_wp2_with fail
    refine (within_any q hq 1 100 (by decide) (by decide) wr).mono ?_
    rintro e w3 ⟨m, rfl, hm1, hm2, rfl⟩
    by_cases him : i < m
    · go_wp2_with fail
      refine (lenN pa n _ F w3 HH.out.is).mono ?_
      rintro e w4 ⟨rfl, rfl⟩
      rw [upto_len]
      by_cases hc : c = n
      · obtain ⟨c1, hcc⟩ : ∃ c1, c = c1 + 1 := ⟨n - 1, by omega⟩
        have c' : ((c : Int) == (n : Int)) = true := by rw [beq_iff_eq]; omega
        have h4 := HH.out
        rw [hcc, upto_cons] at h4
        have H4 := hid h4
        have hf1 : f ≤ 100 := by have := HI.out; omega
        clear h4 HH
        go_wp2_with fail
        refine (popNH H4.out).mono ?_
        rintro e w5 ⟨rfl, h5, -⟩
        generalize Grow F w4 w5 = F5 at h5
        have H5 := hid h5
        obtain ⟨f1, hf⟩ : ∃ f1 : Nat, f1 = f + 1 := ⟨_, rfl⟩
        rw [← hf] at H5
        have HI1 := hid (show f1 + c1 = i by have := HI.out; omega)
        have hc1 : c1 < n := by omega
        have hff : ((f : Int) + 1) = (f1 : Int) := by omega
        clear h5 H4 HI hcn hf hc hcc
        go_wp2_with fail
        clear hff hf1
        refine (pushNH i H5.out).mono ?_
        rw [upto_len, decide_eq_true hc1, if_pos hc1]
        rintro e w6 ⟨rfl, h6, -⟩
        generalize Grow F5 w5 w6 = F6 at h6
        rw [← HI1.out, ← upto_snoc] at h6
        have H6 := hid h6
        clear h6 H5
        have hf1 : f1 + c1 ≤ 100 := by have := HI1.out; omega
        go_wp2
        go_loopw [11] (fun kv wr => ∃ k d : Nat, kv = .int .i64 k ∧ k ≤ c1 + 1 ∧ wr = w6.drewN d) (fun k _ => c1 + 1 - (intOf k).toNat)
        case atStart => exact ⟨0, 0, rfl, Nat.zero_le _, rfl⟩
        case round =>
          obtain ⟨k, d, rfl, hk, rfl⟩ := hrel
          have h7 := H6.out.plain ((Kept.refl _ _).drewN d)
          have H7 := hid h7
          clear h7
          go_wp2_with fail
          refine (lenN pa n _ F6 _ H7.out.is).mono ?_
          rintro e w8 ⟨rfl, rfl⟩
          rw [upto_len]
          by_cases hkc : k < c1 + 1
          · go_wp2_with fail
            refine (peekN pa n _ F6 k _ _ H7.out.is (upto_get hkc)).mono ?_
            rintro e w9 ⟨rfl, d2, rfl⟩
            clear H7
            go_wp2
            go_roundw
            case rel => exact ⟨k + 1, d + d2, by go_num, by omega, by simp [go_sem]⟩
            case measure => simp [intOf]; omega
          · obtain rfl : k = c1 + 1 := by omega
            go_wp2
            go_roundw
            case rel => exact ⟨f1, c1 + 1, F6, rfl, by rw [← HI1.out]; go_num, by have := HI1.out; omega, by omega, H7.out⟩
            case measure => simp [intOf]; omega
      · have hc1 : c < n := by omega
        have c' : ((c : Int) == (n : Int)) = false := by rw [beq_eq_false_iff_ne]; omega
        obtain ⟨f1, rfl⟩ : ∃ f1, f1 = f := ⟨_, rfl⟩
        obtain ⟨c1, rfl⟩ : ∃ c1, c1 = c := ⟨_, rfl⟩
        have HI1 := HI
        clear hcn HI hc
        go_wp2_with fail
        refine (pushNH i HH.out).mono ?_
        rw [upto_len, decide_eq_true hc1, if_pos hc1]
        rintro e w6 ⟨rfl, h6, -⟩
        generalize Grow F w4 w6 = F6 at h6
        rw [← HI1.out, ← upto_snoc] at h6
        have H6 := hid h6
        clear h6 HH c'
        have hf1 : f1 + c1 ≤ 100 := by have := HI1.out; omega
        go_wp2
        go_loopw [11] (fun kv wr => ∃ k d : Nat, kv = .int .i64 k ∧ k ≤ c1 + 1 ∧ wr = w6.drewN d) (fun k _ => c1 + 1 - (intOf k).toNat)
        case atStart => exact ⟨0, 0, rfl, Nat.zero_le _, rfl⟩
        case round =>
          obtain ⟨k, d, rfl, hk, rfl⟩ := hrel
          have h7 := H6.out.plain ((Kept.refl _ _).drewN d)
          have H7 := hid h7
          clear h7
          go_wp2_with fail
          refine (lenN pa n _ F6 _ H7.out.is).mono ?_
          rintro e w8 ⟨rfl, rfl⟩
          rw [upto_len]
          by_cases hkc : k < c1 + 1
          · go_wp2_with fail
            refine (peekN pa n _ F6 k _ _ H7.out.is (upto_get hkc)).mono ?_
            rintro e w9 ⟨rfl, d2, rfl⟩
            clear H7
            go_wp2
            go_roundw
            case rel => exact ⟨k + 1, d + d2, by go_num, by omega, by simp [go_sem]⟩
            case measure => simp [intOf]; omega
          · obtain rfl : k = c1 + 1 := by omega
            go_wp2
            go_roundw
            case rel => exact ⟨f1, c1 + 1, F6, rfl, by rw [← HI1.out]; go_num, by have := HI1.out; omega, by omega, H7.out⟩
            case measure => simp [intOf]; omega
    · go_wp2_with fail
      refine (known_any _).mono ?_
      rintro e w7 ⟨rfl, hb7⟩
      have B7 := hid (HH.out.bel.trans (hb7.mono HH.out.bel.size))
      clear hb7 HH
      go_wp2
      go_ret
      exact ⟨rfl, B7.out⟩
end Go.Proofs.Ytokjachnbipjjaa
