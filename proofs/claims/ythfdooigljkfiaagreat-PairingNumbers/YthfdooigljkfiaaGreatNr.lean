/- The walk of LeftistNumbers. -/
import Derived.Test.YthfdooigljkfiaaGreatLift
import Derived.Test.YthfdooigljkfiaaGreatGi
import Derived.Test.YthfdooigljkfiaaGreatKn
import Derived.Test.YthfdooigljkfiaaGreatGl
import Derived.Test.YthfdooigljkfiaaGreatFa0
import Derived.Test.YthfdooigljkfiaaGreatDo
import Derived.Test.YthfdooigljkfiaaGreatMe
import Derived.Test.YthfdooigljkfiaaGreatMf
import Derived.Test.YthfdooigljkfiaaGreatPw
import Derived.Test.YthfdooigljkfiaaGreatFa1
import Derived.Test.YthfdooigljkfiaaGreatCu0
import Derived.Test.YthfdooigljkfiaaGreatCu1
namespace Go.Proofs.YthfdooigljkfiaaGreat
open Go.ChangeShapes Go.WideShapes Go.ChangeAt Go.RowKit
open Tr

theorem fall0S {w0 : Fm} {w : World} {pw N K : Nat} {L0 L1 : List (Nat × Int × Int)} {nx : Int} (at0 by0 : Int) (hat : I64 at0) (h : Sit w0 w pw N K L0 L1 nx) (hl : L0.length ≤ 700) (hl' : L1.length ≤ 700) (hK : K ≤ 90000000) :
    Calls Tryz.prog 10 #[.pointer (some ⟨pw, 0, none⟩), .int .i64 0, .int .i64 at0, .int .i64 by0] w fun e w' => e = .returned (.bool true) ∧ Sit w0 w' pw N (K + 2000) (fallL at0 by0 L0) L1 nx := by
  by_cases h0 : L0 = []
  · refine (fall0_none at0 by0 h h0).mono ?_
    rintro e w1 ⟨rfl, s1⟩
    subst h0
    exact ⟨rfl, by rw [fallL_nil]; exact s1.mono (by omega)⟩
  · exact fall0_some at0 by0 hat h h0 hl hl' hK
theorem fall1S {w0 : Fm} {w : World} {pw N K : Nat} {L0 L1 : List (Nat × Int × Int)} {nx : Int} (at0 by0 : Int) (hat : I64 at0) (h : Sit w0 w pw N K L0 L1 nx) (hl : L0.length ≤ 700) (hl' : L1.length ≤ 700) (hK : K ≤ 90000000) :
    Calls Tryz.prog 10 #[.pointer (some ⟨pw, 0, none⟩), .int .i64 1, .int .i64 at0, .int .i64 by0] w fun e w' => e = .returned (.bool true) ∧ Sit w0 w' pw N (K + 2000) L0 (fallL at0 by0 L1) nx := by
  by_cases h0 : L1 = []
  · refine (fall1_none at0 by0 h h0).mono ?_
    rintro e w1 ⟨rfl, s1⟩
    subst h0
    exact ⟨rfl, by rw [fallL_nil]; exact s1.mono (by omega)⟩
  · exact fall1_some at0 by0 hat h h0 hl hl' hK
theorem cut0S {w0 : Fm} {w : World} {pw N K : Nat} {L0 L1 : List (Nat × Int × Int)} {nx : Int} (at0 : Int) (hat : I64 at0) (h : Sit w0 w pw N K L0 L1 nx) (hl : L0.length ≤ 700) (hl' : L1.length ≤ 700) (hK : K ≤ 90000000) :
    Calls Tryz.prog 11 #[.pointer (some ⟨pw, 0, none⟩), .int .i64 0, .int .i64 at0] w fun e w' => e = .returned (.bool true) ∧ Sit w0 w' pw N (K + 2000) (cutL at0 L0) L1 nx := by
  by_cases h0 : L0 = []
  · refine (cut0_none at0 h h0).mono ?_
    rintro e w1 ⟨rfl, s1⟩
    subst h0
    exact ⟨rfl, by rw [cutL_nil]; exact s1.mono (by omega)⟩
  · exact cut0_some at0 hat h h0 hl hl' hK
theorem cut1S {w0 : Fm} {w : World} {pw N K : Nat} {L0 L1 : List (Nat × Int × Int)} {nx : Int} (at0 : Int) (hat : I64 at0) (h : Sit w0 w pw N K L0 L1 nx) (hl : L0.length ≤ 700) (hl' : L1.length ≤ 700) (hK : K ≤ 90000000) :
    Calls Tryz.prog 11 #[.pointer (some ⟨pw, 0, none⟩), .int .i64 1, .int .i64 at0] w fun e w' => e = .returned (.bool true) ∧ Sit w0 w' pw N (K + 2000) L0 (cutL at0 L1) nx := by
  by_cases h0 : L1 = []
  · refine (cut1_none at0 h h0).mono ?_
    rintro e w1 ⟨rfl, s1⟩
    subst h0
    exact ⟨rfl, by rw [cutL_nil]; exact s1.mono (by omega)⟩
  · exact cut1_some at0 hat h h0 hl hl' hK
theorem i64_small (n : Int) (h : -1000000 ≤ n ∧ n ≤ 1000000) : I64 n := ⟨by omega, by omega⟩
theorem cutL_len' (n : Int) {L : List (Nat × Int × Int)} {k : Nat} (h : L.length = k + 1) : (cutL n L).length = k := by
  rw [cutL_len n (fun z => by rw [z] at h; simp at h)]; omega
theorem popL_len' {L : List (Nat × Int × Int)} {k : Nat} (h : L.length = k) : (popL L).length = k - 1 := by
  by_cases z : L = []
  · subst z; simp at h; subst h; rfl
  · rw [popL_len z]; omega

set_option maxHeartbeats 4000000 in
set_option maxRecDepth 100000 in
theorem numbers_walk (W : World) : Calls Tryz.prog 3 #[] W fun e w' => e = .returned (.bool true) ∧ Below W.heap.size W w' := by
  go_enter Tryz.func3, Tryz.ntmps3
  go_wp2_with fail
  go_loopw [1, 2, 3, 4] (fun hv _ _ _ wr => ∃ a : Nat, hv = .int .i64 a ∧ a ≤ 4 ∧ Below W.heap.size W wr) (fun a _ _ _ _ => 4 - (intOf a).toNat)
  case atStart => exact ⟨0, rfl, by omega, Below.refl _ _⟩
  case round =>
    obtain ⟨a, rfl, ha, hB⟩ := hrel
    have HB := hid hB
    clear hB
    by_cases q : a < 4
    · have q' : (a : Int) < 4 := by omega
      obtain ⟨w5, rfl⟩ : ∃ w5, w5 = wr := ⟨wr, rfl⟩
      go_wp2_with fail
      refine (freshW 200 w5).mono ?_
      rintro e w1 ⟨pw, rfl, s1⟩
      rw [show most0 200 = 200 from rfl] at s1
      have S1 := hid s1
      clear s1
      go_wp2_with fail
      go_loopw [3] (fun bv wr => ∃ (b : Nat) (L0 L1 : List (Nat × Int × Int)), bv = .int .i64 b ∧ b ≤ 40 ∧ L0.length = (b + 1) / 2 ∧ L1.length = b / 2 ∧ Sit (Fm.of w5) wr pw 200 (90000 * b) L0 L1 (b : Int)) (fun b _ => 40 - (intOf b).toNat)
      case atStart => exact ⟨0, [], [], rfl, by omega, rfl, rfl, S1.out⟩
      case round =>
        clear S1
        obtain ⟨b, L0, L1, rfl, hb, h0, h1, hs⟩ := hrel
        have S := hid hs
        have H0 := hid h0
        have H1 := hid h1
        have hl0 : L0.length ≤ 20 := by omega
        have hl1 : L1.length ≤ 20 := by omega
        clear hs h0 h1
        by_cases z : b < 40
        · have z' : (b : Int) < 40 := by omega
          have hw1 : IntKind.i64.wrap (-(b : Int)) = -(b : Int) := IntWalk.i64_in _ (by omega)
          have hw2 : IntKind.i64.wrap ((b : Int) * 17) = (b : Int) * 17 := IntWalk.i64_in _ (by omega)
          obtain ⟨key, hkey⟩ : ∃ key : Int, (#[Value.int .i64 (b : Int), Value.int .i64 (-(b : Int)), Value.int .i64 5, Value.int .i64 ((b : Int) * 17 % 40)] : Array Value)[a]? = some (.int .i64 key) := by
            have hz4 : a = 0 ∨ a = 1 ∨ a = 2 ∨ a = 3 := by omega
            rcases hz4 with rfl | rfl | rfl | rfl
            · exact ⟨_, rfl⟩
            · exact ⟨_, rfl⟩
            · exact ⟨_, rfl⟩
            · exact ⟨_, rfl⟩
          have hload : (wr.alloc (.cells #[Value.int .i64 (b : Int), Value.int .i64 (-(b : Int)), Value.int .i64 5, Value.int .i64 ((b : Int) * 17 % 40)] 2)).cell? ⟨wr.heap.size, a, none⟩ = some (.int .i64 key) := blk_cell (heap_alloc_new wr _) hkey
          clear hkey
          have RS := hid (fun (wx : World) (M0 M1 : List (Nat × Int × Int)) (s : Sit (Fm.of w5) wx pw 200 (90000 * b + 1500) M0 M1 ((b : Int) + 1)) (l0 : M0.length ≤ 21) (l1 : M1.length ≤ 21) => rightS s (by omega) (by omega) (by omega))
          by_cases par : b % 2 = 0
          · have hp : (b : Int) % 2 = 0 := by omega
            have hp2 : (b : Int).tmod 2 = 0 := by rw [Int.tmod_eq_emod_of_nonneg (by omega)]; exact hp
            have PU := hid (fun (o : Obj) (key : Int) => push0 (S.out.plain ((Kept.refl _ _).alloc o)) (by omega) (by omega) ⟨by omega, by omega⟩ (by omega) key)
            have HL := hid (show L0.length + 1 = (b + 1 + 1) / 2 ∧ L1.length = (b + 1) / 2 by rw [H0.out, H1.out]; omega)
            clear S H0 H1 par
            all_goals
              go_wp2_with fail
              refine (PU.out _ _).mono ?_
              rintro e w6 ⟨rfl, j, s6⟩
              have S6 := hid s6
              clear s6
              go_wp2_with fail
              refine (RS.out _ _ _ S6.out (by simp; omega) (by omega)).mono ?_
              rintro e w7 ⟨rfl, s7⟩
              have S7 := hid s7
              clear s7 S6
              go_wp2
              go_roundw
              case rel => exact ⟨b + 1, L0 ++ [(j, key, (b : Int))], L1, by go_num, by omega, by rw [List.length_append]; exact HL.out.1, HL.out.2, by have := S7.out.mono (show 90000 * b + 1500 + 86000 ≤ 90000 * (b + 1) by omega); exact this⟩
              case measure => simp [intOf]; omega
          · have hp : (b : Int) % 2 = 1 := by omega
            have hp2 : (b : Int).tmod 2 = 1 := by rw [Int.tmod_eq_emod_of_nonneg (by omega)]; exact hp
            have PU := hid (fun (o : Obj) (key : Int) => push1 (S.out.plain ((Kept.refl _ _).alloc o)) (by omega) (by omega) ⟨by omega, by omega⟩ (by omega) key)
            have HL := hid (show L0.length = (b + 1 + 1) / 2 ∧ L1.length + 1 = (b + 1) / 2 by rw [H0.out, H1.out]; omega)
            clear S H0 H1 par
            all_goals
              go_wp2_with fail
              refine (PU.out _ _).mono ?_
              rintro e w6 ⟨rfl, j, s6⟩
              have S6 := hid s6
              clear s6
              go_wp2_with fail
              refine (RS.out _ _ _ S6.out (by omega) (by simp; omega)).mono ?_
              rintro e w7 ⟨rfl, s7⟩
              have S7 := hid s7
              clear s7 S6
              go_wp2
              go_roundw
              case rel => exact ⟨b + 1, L0, L1 ++ [(j, key, (b : Int))], by go_num, by omega, HL.out.1, by rw [List.length_append]; exact HL.out.2, by have := S7.out.mono (show 90000 * b + 1500 + 86000 ≤ 90000 * (b + 1) by omega); exact this⟩
              case measure => simp [intOf]; omega
        · have z' : decide ((b : Int) < 40) = false := by simp; omega
          have hL0 : L0.length = 20 := by rw [H0.out]; omega
          have hL1 : L1.length = 20 := by rw [H1.out]; omega
          have S0 := hid (S.out.mono (show 90000 * b ≤ 4000000 by omega))
          obtain ⟨nx, hnx⟩ : ∃ nx : Int, nx = (b : Int) := ⟨_, rfl⟩
          rw [← hnx] at S0
          clear hnx
          clear S H0 H1 hl0 hl1
          by_cases par : a % 2 = 0
          · have hp2 : (a : Int).tmod 2 = 0 := by rw [Int.tmod_eq_emod_of_nonneg (by omega)]; omega
            have hF := hid (show (fallL 7 (-100) L0).length = 20 by rw [fallL_len]; exact hL0)
            have hC := hid (show (cutL 9 L1).length = 19 from cutL_len' 9 hL1)
            have C1 := hid (fall0S 7 (-100) (i64_small _ (by decide)) S0.out (by omega) (by omega) (by omega))
            go_wp2_with fail
            refine C1.out.mono ?_
            rintro e w11 ⟨rfl, s1⟩
            have S1 := hid s1
            clear s1 C1 S0
            generalize fallL 7 (-100) L0 = A at *
            have C2 := hid (rightS S1.out (by have := hF.out; omega) (by omega) (by omega))
            go_wp2_with fail
            refine C2.out.mono ?_
            rintro e w12 ⟨rfl, s2⟩
            have S2 := hid s2
            clear s2 C2 S1
            have C3 := hid (cut1S 9 (i64_small _ (by decide)) S2.out (by have := hF.out; omega) (by omega) (by omega))
            go_wp2_with fail
            refine C3.out.mono ?_
            rintro e w13 ⟨rfl, s3⟩
            have S3 := hid s3
            clear s3 C3 S2
            generalize cutL 9 L1 = B at *
            have C4 := hid (rightS S3.out (by have := hF.out; omega) (by have := hC.out; omega) (by omega))
            go_wp2_with fail
            refine C4.out.mono ?_
            rintro e w14 ⟨rfl, s4⟩
            have S4 := hid s4
            clear s4 C4 S3
            have C5 := hid (meld0 S4.out (by have := hF.out; have := hC.out; omega) (by omega))
            go_wp2_with fail
            refine C5.out.mono ?_
            rintro e w15 ⟨rfl, s5⟩
            have S5 := hid s5
            clear s5 C5 S4
            have hD := hid (show (A ++ B).length = 39 by rw [List.length_append, hF.out, hC.out])
            generalize A ++ B = D at *
            have C6 := hid (rightS S5.out (by have := hD.out; omega) (by simp) (by omega))
            go_wp2_with fail
            refine C6.out.mono ?_
            rintro e w16 ⟨rfl, s6⟩
            have S6 := hid s6
            clear s6 C6 S5
            have C7 := hid (cut0S 20 (i64_small _ (by decide)) S6.out (by have := hD.out; omega) (by simp) (by omega))
            go_wp2_with fail
            refine C7.out.mono ?_
            rintro e w17 ⟨rfl, s7⟩
            have S7 := hid s7
            clear s7 C7 S6
            have hE := hid (show (cutL 20 D).length = 38 from cutL_len' 20 hD.out)
            generalize cutL 20 D = E at *
            have C8 := hid (fall0S 11 0 (i64_small _ (by decide)) S7.out (by have := hE.out; omega) (by simp) (by omega))
            go_wp2_with fail
            refine C8.out.mono ?_
            rintro e w18 ⟨rfl, s8⟩
            have S8 := hid s8
            clear s8 C8 S7
            have hG := hid (show (fallL 11 0 E).length = 38 by rw [fallL_len]; exact hE.out)
            generalize fallL 11 0 E = G at *
            have C9 := hid (rightS S8.out (by have := hG.out; omega) (by simp) (by omega))
            go_wp2_with fail
            refine C9.out.mono ?_
            rintro e w19 ⟨rfl, s9⟩
            have S9 := hid s9
            clear s9 C9 S8
            go_wp2_with fail
            go_loopw [4] (fun cv wr => ∃ (c : Nat) (M : List (Nat × Int × Int)), cv = .int .i64 c ∧ c ≤ 40 ∧ M.length = 38 - c ∧ Sit (Fm.of w5) wr pw 200 (5000000 + 90000 * c) M [] nx) (fun c _ => 40 - (intOf c).toNat)
            case atStart => exact ⟨0, G, rfl, by omega, hG.out, S9.out.mono (by omega)⟩
            case round =>
              clear S9 hG hE hD hF hC
              obtain ⟨c, M, rfl, hc, hM, hs⟩ := hrel
              have S := hid hs
              have HM := hid hM
              by_cases y : c < 40
              · have y' : (c : Int) < 40 := by omega
                have hl : M.length ≤ 38 := by omega
                have hpl := hid (show (popL M).length = 38 - (c + 1) by rw [popL_len' hM]; omega)
                have hpl2 := hid (popL_le M)
                clear hs hM
                have C10 := hid (pop0S S.out (by omega) (by omega))
                go_wp2_with fail
                refine C10.out.mono ?_
                rintro e w20 ⟨rfl, s10⟩
                have S10 := hid s10
                clear s10 C10 S
                have C11 := hid (rightS S10.out (by have := hpl2.out; omega) (by simp) (by omega))
                go_wp2_with fail
                refine C11.out.mono ?_
                rintro e w21 ⟨rfl, s11⟩
                have S11 := hid s11
                clear s11 C11 S10
                go_wp2
                go_roundw
                case rel => exact ⟨c + 1, popL M, by go_num, by omega, hpl.out, S11.out.mono (by omega)⟩
                case measure => simp [intOf]; omega
              · have y' : decide ((c : Int) < 40) = false := by simp; omega
                obtain rfl : M = [] := List.eq_nil_of_length_eq_zero (by omega)
                clear hs hM HM
                have C12 := hid (drop0_none S.out (by omega))
                go_wp2_with fail
                refine C12.out.mono ?_
                rintro e w22 ⟨rfl, s12⟩
                have S12 := hid s12
                clear s12 C12 S
                have C13 := hid (drop1_none S12.out (by omega))
                go_wp2_with fail
                refine C13.out.mono ?_
                rintro e w23 ⟨rfl, s13⟩
                have S13 := hid s13
                clear s13 C13 S12
                obtain ⟨pa, hl0, c0, ln⟩ := S13.out.len
                have LN := hid ln
                have B13 := hid (HB.out.trans (S13.out.bel.mono HB.out.size))
                clear ln S13
                go_wp2_with fail
                refine (LN.out _ (Kept.refl _ _)).mono ?_
                rintro e w24 ⟨rfl, m, rfl⟩
                simp only [List.length_nil, Nat.add_zero, Nat.mul_zero]
                go_wp2
                go_roundw
                case rel => exact ⟨a + 1, by go_num, by omega, below_drewN B13.out m⟩
                case measure => simp [intOf]; omega
          · have hp2 : (a : Int).tmod 2 = 1 := by rw [Int.tmod_eq_emod_of_nonneg (by omega)]; omega
            have hF := hid (show (fallL 7 (-100) L0).length = 20 by rw [fallL_len]; exact hL0)
            have hC := hid (show (cutL 9 L1).length = 19 from cutL_len' 9 hL1)
            have C1 := hid (fall0S 7 (-100) (i64_small _ (by decide)) S0.out (by omega) (by omega) (by omega))
            go_wp2_with fail
            refine C1.out.mono ?_
            rintro e w11 ⟨rfl, s1⟩
            have S1 := hid s1
            clear s1 C1 S0
            generalize fallL 7 (-100) L0 = A at *
            have C2 := hid (rightS S1.out (by have := hF.out; omega) (by omega) (by omega))
            go_wp2_with fail
            refine C2.out.mono ?_
            rintro e w12 ⟨rfl, s2⟩
            have S2 := hid s2
            clear s2 C2 S1
            have C3 := hid (cut1S 9 (i64_small _ (by decide)) S2.out (by have := hF.out; omega) (by omega) (by omega))
            go_wp2_with fail
            refine C3.out.mono ?_
            rintro e w13 ⟨rfl, s3⟩
            have S3 := hid s3
            clear s3 C3 S2
            generalize cutL 9 L1 = B at *
            have C4 := hid (rightS S3.out (by have := hF.out; omega) (by have := hC.out; omega) (by omega))
            go_wp2_with fail
            refine C4.out.mono ?_
            rintro e w14 ⟨rfl, s4⟩
            have S4 := hid s4
            clear s4 C4 S3
            have C5 := hid (meld1 S4.out (by have := hF.out; have := hC.out; omega) (by omega))
            go_wp2_with fail
            refine C5.out.mono ?_
            rintro e w15 ⟨rfl, s5⟩
            have S5 := hid s5
            clear s5 C5 S4
            have hD := hid (show (B ++ A).length = 39 by rw [List.length_append, hF.out, hC.out])
            generalize B ++ A = D at *
            have C6 := hid (rightS S5.out (by simp) (by have := hD.out; omega) (by omega))
            go_wp2_with fail
            refine C6.out.mono ?_
            rintro e w16 ⟨rfl, s6⟩
            have S6 := hid s6
            clear s6 C6 S5
            have C7 := hid (cut1S 20 (i64_small _ (by decide)) S6.out (by simp) (by have := hD.out; omega) (by omega))
            go_wp2_with fail
            refine C7.out.mono ?_
            rintro e w17 ⟨rfl, s7⟩
            have S7 := hid s7
            clear s7 C7 S6
            have hE := hid (show (cutL 20 D).length = 38 from cutL_len' 20 hD.out)
            generalize cutL 20 D = E at *
            have C8 := hid (fall1S 11 0 (i64_small _ (by decide)) S7.out (by simp) (by have := hE.out; omega) (by omega))
            go_wp2_with fail
            refine C8.out.mono ?_
            rintro e w18 ⟨rfl, s8⟩
            have S8 := hid s8
            clear s8 C8 S7
            have hG := hid (show (fallL 11 0 E).length = 38 by rw [fallL_len]; exact hE.out)
            generalize fallL 11 0 E = G at *
            have C9 := hid (rightS S8.out (by simp) (by have := hG.out; omega) (by omega))
            go_wp2_with fail
            refine C9.out.mono ?_
            rintro e w19 ⟨rfl, s9⟩
            have S9 := hid s9
            clear s9 C9 S8
            go_wp2_with fail
            go_loopw [4] (fun cv wr => ∃ (c : Nat) (M : List (Nat × Int × Int)), cv = .int .i64 c ∧ c ≤ 40 ∧ M.length = 38 - c ∧ Sit (Fm.of w5) wr pw 200 (5000000 + 90000 * c) [] M nx) (fun c _ => 40 - (intOf c).toNat)
            case atStart => exact ⟨0, G, rfl, by omega, hG.out, S9.out.mono (by omega)⟩
            case round =>
              clear S9 hG hE hD hF hC
              obtain ⟨c, M, rfl, hc, hM, hs⟩ := hrel
              have S := hid hs
              have HM := hid hM
              by_cases y : c < 40
              · have y' : (c : Int) < 40 := by omega
                have hl : M.length ≤ 38 := by omega
                have hpl := hid (show (popL M).length = 38 - (c + 1) by rw [popL_len' hM]; omega)
                have hpl2 := hid (popL_le M)
                clear hs hM
                have C10 := hid (pop1S S.out (by omega) (by omega))
                go_wp2_with fail
                refine C10.out.mono ?_
                rintro e w20 ⟨rfl, s10⟩
                have S10 := hid s10
                clear s10 C10 S
                have C11 := hid (rightS S10.out (by simp) (by have := hpl2.out; omega) (by omega))
                go_wp2_with fail
                refine C11.out.mono ?_
                rintro e w21 ⟨rfl, s11⟩
                have S11 := hid s11
                clear s11 C11 S10
                go_wp2
                go_roundw
                case rel => exact ⟨c + 1, popL M, by go_num, by omega, hpl.out, S11.out.mono (by omega)⟩
                case measure => simp [intOf]; omega
              · have y' : decide ((c : Int) < 40) = false := by simp; omega
                obtain rfl : M = [] := List.eq_nil_of_length_eq_zero (by omega)
                clear hs hM HM
                have C12 := hid (drop0_none S.out (by omega))
                go_wp2_with fail
                refine C12.out.mono ?_
                rintro e w22 ⟨rfl, s12⟩
                have S12 := hid s12
                clear s12 C12 S
                have C13 := hid (drop1_none S12.out (by omega))
                go_wp2_with fail
                refine C13.out.mono ?_
                rintro e w23 ⟨rfl, s13⟩
                have S13 := hid s13
                clear s13 C13 S12
                obtain ⟨pa, hl0, c0, ln⟩ := S13.out.len
                have LN := hid ln
                have B13 := hid (HB.out.trans (S13.out.bel.mono HB.out.size))
                clear ln S13
                go_wp2_with fail
                refine (LN.out _ (Kept.refl _ _)).mono ?_
                rintro e w24 ⟨rfl, m, rfl⟩
                simp only [List.length_nil, Nat.add_zero, Nat.mul_zero]
                go_wp2
                go_roundw
                case rel => exact ⟨a + 1, by go_num, by omega, below_drewN B13.out m⟩
                case measure => simp [intOf]; omega
    · have q' : decide ((a : Int) < 4) = false := by simp; omega
      go_wp2_with fail
      refine (known_any _).mono ?_
      rintro e w9 ⟨rfl, b9⟩
      have B9 := hid (HB.out.trans (b9.mono HB.out.size))
      go_wp2
      go_ret
      exact ⟨rfl, B9.out⟩
end Go.Proofs.YthfdooigljkfiaaGreat
