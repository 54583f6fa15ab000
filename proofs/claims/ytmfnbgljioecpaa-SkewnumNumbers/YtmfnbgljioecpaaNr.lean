/- The walk of SkewnumNumbers. -/
import Derived.Test.YtmfnbgljioecpaaNa
namespace Go.Proofs.Ytmfnbgljioecpaa
open Go.ChangeShapes Go.WideShapes Go.ChangeAt Go.RowKit

set_option maxHeartbeats 8000000 in
set_option maxRecDepth 100000 in
theorem numbers_walk (w : World) : Calls Try.prog 3 #[] w fun e w' => e = .returned (.bool true) ∧ Below w.heap.size w w' := by
  go_enter Try.func3, Try.ntmps3
  go_wp2
  go_loopw [1, 2] (fun lv nv wr => ∃ (k : Nat), nv = .int .i64 ((k + 1 : Nat) : Int) ∧ k ≤ 1999 ∧ Hid (Lst wr lv (tn k)) ∧ Hid (Below w.heap.size w wr)) (fun _ nv _ => 3000 - (intOf nv).toNat)
  case atStart => exact ⟨0, rfl, by omega, hid (Lst.nil w), hid (Below.refl _ _)⟩
  case round =>
    obtain ⟨k, rfl, hk, HL, HB⟩ := hrel
    by_cases hlt : k < 1999
    · as_aux_lemma =>
        have hlt' : ((k + 1 : Nat) : Int) < 2000 := by omega
        have B0 := HB
        clear HB
        go_wp2_with fail
        refine (inc_any _ (tn k) wr HL.out (by have := tn_len (k := k) (by omega); omega)).mono ?_
        rintro e w1 ⟨v1, rfl, o1, b1⟩
        have L1 := hid (HL.out.below b1)
        have B1 := hid (trans_below B0.out b1)
        have M1 := hid o1.lst
        clear b1 HL B0 o1
        rw [incF_tn (by omega)] at M1
        clear L1
        go_wp2_with fail
        refine (refOf_any ((k + 1 : Nat) : Int) w1).mono ?_
        rintro e w2 ⟨v2, rfl, o2, b2⟩
        have M2 := hid (M1.out.below b2)
        have B2 := hid (trans_below B1.out b2)
        have P2 := hid o2.lst
        clear b2 M1 B1 o2
        rw [ofF_nat (k + 1) (by omega)] at P2
        go_wp2_with fail
        refine (sameT v1 v2 (tn (k + 1)) (tn (k + 1)) w2 M2.out P2.out (by have := tn_len (k := k + 1) (by omega); omega) rfl).mono ?_
        rintro e w3 ⟨rfl, b3⟩
        have M3 := hid (M2.out.below b3)
        have P3 := hid (P2.out.below b3)
        have B3 := hid (trans_below B2.out b3)
        clear b3 M2 P2 B2
        clear P3
        go_wp2_with fail
        refine (valueB v1 (tn (k + 1)) w3 M3.out (by have := tn_len (k := k + 1) (by omega); omega)).mono ?_
        rintro e w4 ⟨rfl, b4⟩
        have M4 := hid (M3.out.below b4)
        have B4 := hid (trans_below B3.out b4)
        clear b4 M3 B3
        rw [vb_tn (by omega)]
        go_wp2_with fail
        refine (of_any ((k + 1 : Nat) : Int) w4).mono ?_
        rintro e w5 ⟨v3, rfl, o5, b5⟩
        have M5 := hid (M4.out.below b5)
        have B5 := hid (trans_below B4.out b5)
        have P5 := hid o5.lst
        clear b5 M4 B4 o5
        rw [ofF_nat (k + 1) (by omega)] at P5
        go_wp2_with fail
        refine (sameT v3 v1 (tn (k + 1)) (tn (k + 1)) w5 P5.out M5.out (by have := tn_len (k := k + 1) (by omega); omega) rfl).mono ?_
        rintro e w6 ⟨rfl, b6⟩
        have M6 := hid (M5.out.below b6)
        have P6 := hid (P5.out.below b6)
        have B6 := hid (trans_below B5.out b6)
        clear b6 M5 P5 B5
        clear P6
        go_wp2_with fail
        refine (lawSame v1 (tn (k + 1)) w6 M6.out (by have := tn_len (k := k + 1) (by omega); omega)).mono ?_
        rintro e w7 ⟨rfl, b7⟩
        have M7 := hid (M6.out.below b7)
        have B7 := hid (trans_below B6.out b7)
        clear b7 M6 B6
        go_wp2
        go_roundw
        case rel => exact ⟨k + 1, by go_num, by omega, M7, B7⟩
        case measure => simp [intOf]; omega
    · have HK : Hid (k = 1999) := hid (by omega)
      have hlt' : ¬ ((k + 1 : Nat) : Int) < 2000 := by omega
      have TR := hid (tn_right k (by omega))
      generalize tn k = T at HL TR
      go_wp2
      go_loopw [1, 3] (fun lv nv wr => ∃ (n : Int) (l : List Int), nv = .int .i64 n ∧ -1 ≤ n ∧ n ≤ 1998 ∧ Hid (R l ∧ vl l = n + 1) ∧ Hid (Lst wr lv l) ∧ Hid (Below w.heap.size w wr)) (fun _ nv _ => (intOf nv + 1).toNat)
      case atStart => exact ⟨1998, T, rfl, by omega, by omega, hid ⟨TR.out.1, by rw [TR.out.2]; have := HK.out; omega⟩, HL, HB⟩
      case round =>
        clear HL HB TR
        obtain ⟨n, l, rfl, hn1, hn2, HR, HL, HB⟩ := hrel
        by_cases h0 : 0 ≤ n
        · as_aux_lemma =>
            have hne : l ≠ [] := fun e => by have := HR.out.2; rw [e] at this; simp only [vl] at this; omega
            have HD := hid (R_dec HR.out.1 hne)
            have HE : Hid (decF l = decS l) := hid (if_pos HR.out.1)
            have HV : Hid (vb (decF l) = n) := hid (by rw [HE.out]; unfold vb; rw [if_pos HD.out.1, HD.out.2, HR.out.2]; omega)
            have HLn := hid (R_len HR.out.1)
            have HLn2 := hid (R_len HD.out.1)
            have HR2 : Hid (R (decF l) ∧ vl (decF l) = n - 1 + 1) := hid (by rw [HE.out]; exact ⟨HD.out.1, by rw [HD.out.2, HR.out.2]; omega⟩)
            clear hne
            have B0 := HB
            clear HB
            go_wp2_with fail
            refine (dec_any _ l wr HL.out (by have := HLn.out; omega)).mono ?_
            rintro e w1 ⟨v1, rfl, o1, b1⟩
            have L1 := hid (HL.out.below b1)
            have B1 := hid (trans_below B0.out b1)
            have M1 := hid o1.lst
            clear b1 HL B0 o1
            clear L1
            go_wp2_with fail
            refine (valueB v1 (decF l) w1 M1.out (by have := HLn2.out; rw [← HE.out] at this; omega)).mono ?_
            rintro e w2 ⟨rfl, b2⟩
            have M2 := hid (M1.out.below b2)
            have B2 := hid (trans_below B1.out b2)
            clear b2 M1 B1
            rw [HV.out]
            go_wp2
            go_roundw
            case rel => exact ⟨n - 1, decF l, by go_num, by omega, by omega, HR2, M2, B2⟩
            case measure => simp [intOf]; omega
        · clear HL HR
          go_wp2
          rw [lay_nine wr]
          obtain ⟨W1, hW1⟩ : ∃ W1, W1 = (lay wr nine).alloc (.cells #[.slice (some ⟨wr.heap.size, 0, none⟩) 1 1, .slice (some ⟨wr.heap.size + 1, 0, none⟩) 1 1, .slice (some ⟨wr.heap.size + 1 + 1, 0, none⟩) 1 1, .slice (some ⟨wr.heap.size + 1 + 1 + 1, 0, none⟩) 2 2, .slice (some ⟨wr.heap.size + 1 + 1 + 1 + 1, 0, none⟩) 3 3, .slice (some ⟨wr.heap.size + 1 + 1 + 1 + 1 + 1, 0, none⟩) 3 3, .slice (some ⟨wr.heap.size + 1 + 1 + 1 + 1 + 1 + 1, 0, none⟩) 2 2, .slice (some ⟨wr.heap.size + 1 + 1 + 1 + 1 + 1 + 1 + 1, 0, none⟩) 4 4, .slice (some ⟨wr.heap.size + 1 + 1 + 1 + 1 + 1 + 1 + 1 + 1, 0, none⟩) 3 3] 22) := ⟨_, rfl⟩
          obtain ⟨hF, hBW⟩ := nine_boxes wr W1 hW1
          rw [← hW1]
          have hsz : wr.heap.size + 1 + 1 + 1 + 1 + 1 + 1 + 1 + 1 + 1 < W1.heap.size := by
            obtain ⟨a, c, l, h1, _⟩ := hF 0 (by omega)
            exact World.block_lt_of_cell? _ _ h1
          obtain ⟨g9, hg9⟩ : ∃ g9, g9 = wr.heap.size + 1 + 1 + 1 + 1 + 1 + 1 + 1 + 1 + 1 := ⟨_, rfl⟩
          rw [← hg9] at hF hsz
          rw [← hg9]
          clear hg9
          have HF := hid hF
          have HW := hid (trans_below HB.out hBW)
          clear hF hBW hW1 HB
          go_loopw [56] (fun iv wx => ∃ (j : Nat), iv = .int .i64 (j : Int) ∧ j ≤ 9 ∧ Hid (Below W1.heap.size W1 wx)) (fun iv _ => 9 - (intOf iv).toNat)
          case atStart => exact ⟨0, rfl, by omega, hid (Below.refl _ _)⟩
          case round =>
            obtain ⟨j, rfl, hj, HX⟩ := hrel
            by_cases hj9 : j < 9
            · as_aux_lemma =>
                have hj9' : (j : Int) < 9 := by omega
                obtain ⟨a, c, l, hc, hl, hle⟩ := HF.out j hj9
                have c1 := (HX.out.cell (p := ⟨g9, j, none⟩) hsz).trans hc
                have HL := hid (hl.below HX.out)
                clear hc hl
                go_wp2_with fail
                refine (lawSame _ l _ HL.out hle).mono ?_
                rintro e w9 ⟨rfl, b9⟩
                have B9 := hid (trans_below HX.out b9)
                clear b9
                go_wp2
                go_roundw
                case rel => exact ⟨j + 1, by go_num, by omega, B9⟩
                case measure => simp [intOf]; omega
            · as_aux_lemma =>
                have hj9' : ¬ (j : Int) < 9 := by omega
                have BX := hid (trans_below HW.out HX.out)
                clear HF HX HW
                have B0 := BX
                clear BX
                go_wp2_with fail
                refine (of_zero wr).mono ?_
                rintro e w1 ⟨a1, c1, rfl, b1⟩
                have B1 := hid (trans_below B0.out b1)
                clear b1 B0
                go_wp2_with fail
                refine (of_over w1).mono ?_
                rintro e w2 ⟨a2, c2, rfl, b2⟩
                have B2 := hid (trans_below B1.out b2)
                clear b2 B1
                go_wp2_with fail
                refine (of_top w2).mono ?_
                rintro e w3 ⟨a3, c3, k3, rfl, hk3, b3⟩
                have hk3' : 0 < (k3 : Int) := by omega
                have B3 := hid (trans_below B2.out b3)
                clear b3 B2
                go_wp2_with fail
                refine (known_any w3).mono ?_
                rintro e w4 ⟨rfl, b4⟩
                have B4 := hid (trans_below B3.out b4)
                clear b4 B3
                go_wp2
                go_ret
                exact ⟨rfl, B4.out⟩
end Go.Proofs.Ytmfnbgljioecpaa
