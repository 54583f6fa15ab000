/- The walks of the four statements. -/
import Derived.Test.YtmfnbgljioecpaaJn
namespace Go.Proofs.Ytmfnbgljioecpaa
open Go.ChangeShapes Go.WideShapes Go.ChangeAt Go.RowKit

theorem ofF_nat (x : Nat) (h : x ≤ 268435456) : ofF (x : Int) = tn x := by
  unfold ofF
  by_cases c : x = 0
  · subst c; rfl
  · rw [if_neg (by omega)]; rfl
theorem ofF_right (n : Int) : R (ofF n) := by
  unfold ofF
  split
  · exact R_nil
  · exact (tn_right _ (by omega)).1
theorem ofF_len (n : Int) : (ofF n).length ≤ 30 := R_len (ofF_right n)
theorem tn_len {k : Nat} (h : k ≤ 268435456) : (tn k).length ≤ 30 := R_len (tn_right k h).1
theorem incF_tn {k : Nat} (h : k < 268435456) : incF (tn k) = tn (k + 1) := by
  obtain ⟨h1, h2⟩ := tn_right k (by omega)
  unfold incF
  rw [if_pos]
  · rfl
  · refine ⟨h1, fun e => ?_⟩
    have h28 : (28 : Int) ∈ tn k := List.mem_of_mem_take (i := 2) (by rw [e]; simp)
    have := vl_mem h28
    have e28 : cn (28 : Int).toNat = 536870911 := by decide
    omega
theorem decF_tn {k : Nat} (h : k < 268435456) : decF (tn (k + 1)) = tn k := by
  obtain ⟨h1, _⟩ := tn_right (k + 1) (by omega)
  obtain ⟨h2, _⟩ := tn_right k (by omega)
  unfold decF
  rw [if_pos h1]
  exact dec_inc fun x hx => (h2.1 x hx).1
theorem vb_tn {k : Nat} (h : k ≤ 268435456) : vb (tn k) = k := by
  obtain ⟨h1, h2⟩ := tn_right k h
  unfold vb
  rw [if_pos h1, h2]
theorem join_tn {x y : Nat} (h : x + y ≤ 268435456) : joinF (tn x) (tn y) = tn (x + y) := by
  obtain ⟨h1, h2⟩ := tn_right x (by omega)
  obtain ⟨h3, h4⟩ := tn_right y (by omega)
  unfold joinF
  rw [if_pos ⟨h1, h3⟩, h2, h4, show (x : Int) + (y : Int) = ((x + y : Nat) : Int) by omega, ofF_nat _ h]

set_option maxHeartbeats 4000000 in
theorem joins_walk (n m : Int) (hn : I64 n) (hm : I64 m) (w : World) : Calls Try.prog 6 #[.int .i64 n, .int .i64 m] w fun e w' => e = .returned (.bool true) ∧ Below w.heap.size w w' := by
  go_enter Try.func6, Try.ntmps6
  go_wp2_with fail
  refine (within0 n hn 1048576 (by decide) w).mono ?_
  rintro e w1 ⟨x, rfl, hx, rfl⟩
  go_wp2_with fail
  refine (within0 m hm 60 (by decide) w1).mono ?_
  rintro e w2 ⟨y, rfl, hy, rfl⟩
  go_wp2_with fail
  refine (of_any (x : Int) w2).mono ?_
  rintro e w1 ⟨va, rfl, o1, b1⟩
  have B1 := hid b1
  have A1 := hid o1.lst
  clear b1 o1
  go_wp2_with fail
  refine (of_any (y : Int) w1).mono ?_
  rintro e w2 ⟨vb1, rfl, o2, b2⟩
  have A2 := hid (A1.out.below b2)
  have B2 := hid (trans_below B1.out b2)
  have C2 := hid o2.lst
  clear b2 A1 B1 o2
  rw [ofF_nat x (by omega)] at A2
  rw [ofF_nat y (by omega)] at C2
  go_wp2_with fail
  refine (joined_any va vb1 (tn x) (tn y) w2 A2.out C2.out (by have := tn_len (k := x) (by omega); omega) (by have := tn_len (k := y) (by omega); omega)).mono ?_
  rintro e w3 ⟨vc, rfl, o3, b3⟩
  have A3 := hid (A2.out.below b3)
  have C3 := hid (C2.out.below b3)
  have B3 := hid (trans_below B2.out b3)
  have D3 := hid o3.lst
  clear b3 A2 C2 B2 o3
  go_wp2_with fail
  refine (joined_any vb1 va (tn y) (tn x) w3 C3.out A3.out (by have := tn_len (k := y) (by omega); omega) (by have := tn_len (k := x) (by omega); omega)).mono ?_
  rintro e w4 ⟨vd, rfl, o4, b4⟩
  have A4 := hid (A3.out.below b4)
  have C4 := hid (C3.out.below b4)
  have D4 := hid (D3.out.below b4)
  have B4 := hid (trans_below B3.out b4)
  have E4 := hid o4.lst
  clear b4 A3 C3 D3 B3 o4
  rw [join_tn (by omega)] at D4
  rw [join_tn (by omega), Nat.add_comm] at E4
  go_wp2
  go_loopw [11, 12] (fun lv iv wr => ∃ (i : Nat), iv = .int .i64 (i : Int) ∧ i ≤ y ∧ Hid (Lst wr lv (tn (x + i))) ∧ Hid (Below w4.heap.size w4 wr)) (fun _ iv _ => y - (intOf iv).toNat)
  case atStart => exact ⟨0, rfl, Nat.zero_le _, A4, hid (Below.refl _ _)⟩
  case round =>
    obtain ⟨i, rfl, hi, HL, HB⟩ := hrel
    by_cases hlt : i < y
    · have hlt' : (i : Int) < (y : Int) := by omega
      go_wp2_with fail
      refine (inc_any _ (tn (x + i)) wr HL.out (by have := tn_len (k := x + i) (by omega); omega)).mono ?_
      rintro e w9 ⟨v9, rfl, o9, b9⟩
      have O9 := hid o9.lst
      rw [incF_tn (by omega)] at O9
      have B9 := hid (trans_below HB.out b9)
      clear o9 b9
      go_wp2
      go_roundw
      case rel => exact ⟨i + 1, by go_num, by omega, O9, B9⟩
      case measure => simp [intOf]; omega
    · obtain rfl : i = y := by omega
      have B20 := hid (trans_below B4.out HB.out)
      have D20 := hid (D4.out.below HB.out)
      have E20 := hid (E4.out.below HB.out)
      clear HB
      have TL := hid (tn_len (k := x + i) (by omega))
      have VT := hid (vb_tn (k := x + i) (by omega))
      have HL20 := HL
      clear HL
      go_wp2_with fail
      refine (sameT vc vd _ _ wr D20.out E20.out (by have := TL.out; omega) rfl).mono ?_
      rintro e w21 ⟨rfl, b21⟩
      have D21 := hid (D20.out.below b21)
      have E21 := hid (E20.out.below b21)
      have HL21 := hid (HL20.out.below b21)
      have B21 := hid (trans_below B20.out b21)
      clear b21 D20 E20 HL20 B20
      go_wp2_with fail
      refine (sameT vc _ _ _ w21 D21.out HL21.out (by have := TL.out; omega) rfl).mono ?_
      rintro e w22 ⟨rfl, b22⟩
      have D22 := hid (D21.out.below b22)
      have E22 := hid (E21.out.below b22)
      have HL22 := hid (HL21.out.below b22)
      have B22 := hid (trans_below B21.out b22)
      clear b22 D21 E21 HL21 B21
      go_wp2_with fail
      refine (valueB vc _ w22 D22.out (by have := TL.out; omega)).mono ?_
      rintro e w23 ⟨rfl, b23⟩
      have D23 := hid (D22.out.below b23)
      have E23 := hid (E22.out.below b23)
      have HL23 := hid (HL22.out.below b23)
      have B23 := hid (trans_below B22.out b23)
      clear b23 D22 E22 HL22 B22
      rw [VT.out]
      have hxy : (((x + i : Nat) : Int) == (x : Int) + (i : Int)) = true := by simp
      go_wp2_with fail
      refine (known_any w23).mono ?_
      rintro e w24 ⟨rfl, b24⟩
      have D24 := hid (D23.out.below b24)
      have E24 := hid (E23.out.below b24)
      have HL24 := hid (HL23.out.below b24)
      have B24 := hid (trans_below B23.out b24)
      clear b24 D23 E23 HL23 B23
      go_wp2
      go_ret
      exact ⟨rfl, B24.out⟩

set_option maxHeartbeats 8000000 in
theorem tells_walk (l : List Int) (a : Option Addr) (c : Nat) (n m : Int) (hn : I64 n) (hm : I64 m) (w : World) (h : Lst w (.slice a l.length c) l) : Calls Try.prog 4 #[.slice a l.length c, .int .i64 n, .int .i64 m] w fun e w' => e = .returned (.bool true) ∧ Below w.heap.size w w' := by
  obtain ⟨a', c', e, h1, h2, h3, h4⟩ := h
  obtain ⟨rfl, rfl⟩ : a = a' ∧ c = c' := by cases e; exact ⟨rfl, rfl⟩
  clear e
  by_cases h40 : 40 < l.length
  · skip
    have HL0 := hid (show Lst w (.slice a 40 c) (l.take 40) from by
      have e40 : (l.take 40).length = 40 := by rw [List.length_take]; omega
      refine ⟨a, c, by rw [e40], by omega, h2, h3, ?_⟩
      rcases h4 with h4 | ⟨b, off, e, hb, hc⟩
      · subst h4; simp at h40
      · exact Or.inr ⟨b, off, e, hb, fun i x hx => hc i x (by rw [List.getElem?_take] at hx; split at hx <;> simp_all)⟩)
    have LN := hid (show (l.take 40).length ≤ 40 by rw [List.length_take]; omega)
    generalize hq : l.take 40 = q at HL0 LN
    have n40 : (40 : Int) < (l.length : Int) := by omega
    have n41 : (40 : Int) ≤ (c : Int) := by omega
    clear h4 h3 hq
    unfold maxLen at h2
    go_enter Try.func4, Try.ntmps4
    go_wp2_with fail
    refine (within0 n hn 1048576 (by decide) w).mono ?_
    rintro e w1 ⟨x, rfl, hx, rfl⟩
    go_wp2_with fail
    refine (within0 m hm 1048576 (by decide) w1).mono ?_
    rintro e w2 ⟨y, rfl, hy, rfl⟩
    go_wp2_with fail
    refine (refOf_any (x : Int) w2).mono ?_
    rintro e w1 ⟨va, rfl, o1, b1⟩
    have L1 := hid (HL0.out.below b1)
    have B1 := hid b1
    have A1 := hid o1.lst
    clear b1 HL0 o1
    rw [ofF_nat x (by omega)] at A1
    go_wp2_with fail
    refine (refOf_any (y : Int) w1).mono ?_
    rintro e w2 ⟨vb1, rfl, o2, b2⟩
    have L2 := hid (L1.out.below b2)
    have A2 := hid (A1.out.below b2)
    have B2 := hid (trans_below B1.out b2)
    have C2 := hid o2.lst
    clear b2 L1 A1 B1 o2
    rw [ofF_nat y (by omega)] at C2
    go_wp2_with fail
    refine (lawSame _ q w2 L2.out (by have := LN.out; omega)).mono ?_
    rintro e w3 ⟨rfl, b3⟩
    have L3 := hid (L2.out.below b3)
    have A3 := hid (A2.out.below b3)
    have C3 := hid (C2.out.below b3)
    have B3 := hid (trans_below B2.out b3)
    clear b3 L2 A2 C2 B2
    go_wp2_with fail
    refine (lawSame va (tn x) w3 A3.out (by have := tn_len (k := x) (by omega); omega)).mono ?_
    rintro e w4 ⟨rfl, b4⟩
    have L4 := hid (L3.out.below b4)
    have A4 := hid (A3.out.below b4)
    have C4 := hid (C3.out.below b4)
    have B4 := hid (trans_below B3.out b4)
    clear b4 L3 A3 C3 B3
    go_wp2_with fail
    refine (of_any n w4).mono ?_
    rintro e w5 ⟨v1, rfl, o5, b5⟩
    have L5 := hid (L4.out.below b5)
    have A5 := hid (A4.out.below b5)
    have C5 := hid (C4.out.below b5)
    have B5 := hid (trans_below B4.out b5)
    have P5 := hid o5.lst
    clear b5 L4 A4 C4 B4 o5
    go_wp2_with fail
    refine (refOf_any n w5).mono ?_
    rintro e w6 ⟨v2, rfl, o6, b6⟩
    have L6 := hid (L5.out.below b6)
    have A6 := hid (A5.out.below b6)
    have C6 := hid (C5.out.below b6)
    have P6 := hid (P5.out.below b6)
    have B6 := hid (trans_below B5.out b6)
    have Q6 := hid o6.lst
    clear b6 L5 A5 C5 P5 B5 o6
    go_wp2_with fail
    refine (sameT v1 v2 (ofF n) (ofF n) w6 P6.out Q6.out (by have := ofF_len n; omega) rfl).mono ?_
    rintro e w7 ⟨rfl, b7⟩
    have L7 := hid (L6.out.below b7)
    have A7 := hid (A6.out.below b7)
    have C7 := hid (C6.out.below b7)
    have P7 := hid (P6.out.below b7)
    have Q7 := hid (Q6.out.below b7)
    have B7 := hid (trans_below B6.out b7)
    clear b7 L6 A6 C6 P6 Q6 B6
    clear P7 Q7
    go_wp2_with fail
    refine (joined_any va vb1 (tn x) (tn y) w7 A7.out C7.out (by have := tn_len (k := x) (by omega); omega) (by have := tn_len (k := y) (by omega); omega)).mono ?_
    rintro e w8 ⟨v3, rfl, o8, b8⟩
    have L8 := hid (L7.out.below b8)
    have A8 := hid (A7.out.below b8)
    have C8 := hid (C7.out.below b8)
    have B8 := hid (trans_below B7.out b8)
    have P8 := hid o8.lst
    clear b8 L7 A7 C7 B7 o8
    rw [join_tn (by omega)] at P8
    go_wp2_with fail
    refine (refOf_any ((x : Int) + (y : Int)) w8).mono ?_
    rintro e w9 ⟨v4, rfl, o9, b9⟩
    have L9 := hid (L8.out.below b9)
    have A9 := hid (A8.out.below b9)
    have C9 := hid (C8.out.below b9)
    have P9 := hid (P8.out.below b9)
    have B9 := hid (trans_below B8.out b9)
    have Q9 := hid o9.lst
    clear b9 L8 A8 C8 P8 B8 o9
    rw [show (x : Int) + (y : Int) = ((x + y : Nat) : Int) by omega, ofF_nat _ (by omega)] at Q9
    go_wp2_with fail
    refine (sameT v3 v4 (tn (x + y)) (tn (x + y)) w9 P9.out Q9.out (by have := tn_len (k := x + y) (by omega); omega) rfl).mono ?_
    rintro e w10 ⟨rfl, b10⟩
    have L10 := hid (L9.out.below b10)
    have A10 := hid (A9.out.below b10)
    have C10 := hid (C9.out.below b10)
    have P10 := hid (P9.out.below b10)
    have Q10 := hid (Q9.out.below b10)
    have B10 := hid (trans_below B9.out b10)
    clear b10 L9 A9 C9 P9 Q9 B9
    clear P10 Q10
    go_wp2_with fail
    refine (refRightB _ q w10 L10.out (by have := LN.out; omega)).mono ?_
    rintro e w11 ⟨rfl, b11⟩
    have L11 := hid (L10.out.below b11)
    have A11 := hid (A10.out.below b11)
    have C11 := hid (C10.out.below b11)
    have B11 := hid (trans_below B10.out b11)
    clear b11 L10 A10 C10 B10
    by_cases hr : R q
    · rw [rb_true.2 hr]
      clear hr
      go_wp2_with fail
      refine (known_any w11).mono ?_
      rintro e w12 ⟨rfl, b12⟩
      have L12 := hid (L11.out.below b12)
      have A12 := hid (A11.out.below b12)
      have C12 := hid (C11.out.below b12)
      have B12 := hid (trans_below B11.out b12)
      clear b12 L11 A11 C11 B11
      go_wp2
      go_ret
      exact ⟨rfl, B12.out⟩
    · rw [rb_false.2 hr]
      have J1 : Hid (joinF q (tn x) = []) := hid (if_neg fun e => hr e.1)
      have J2 : Hid (joinF (tn x) q = []) := hid (if_neg fun e => hr e.2)
      clear hr
      go_wp2_with fail
      refine (joined_any _ va q (tn x) w11 L11.out A11.out (by have := LN.out; omega) (by have := tn_len (k := x) (by omega); omega)).mono ?_
      rintro e w12 ⟨v5, rfl, o12, b12⟩
      have L12 := hid (L11.out.below b12)
      have A12 := hid (A11.out.below b12)
      have C12 := hid (C11.out.below b12)
      have B12 := hid (trans_below B11.out b12)
      have P12 := hid o12.lst
      clear b12 L11 A11 C11 B11 o12
      rw [J1.out] at P12
      obtain ⟨a5, c5, rfl, _⟩ := P12.out
      clear P12
      go_wp2_with fail
      refine (joined_any va _ (tn x) q w12 A12.out L12.out (by have := tn_len (k := x) (by omega); omega) (by have := LN.out; omega)).mono ?_
      rintro e w13 ⟨v6, rfl, o13, b13⟩
      have L13 := hid (L12.out.below b13)
      have A13 := hid (A12.out.below b13)
      have C13 := hid (C12.out.below b13)
      have B13 := hid (trans_below B12.out b13)
      have P13 := hid o13.lst
      clear b13 L12 A12 C12 B12 o13
      rw [J2.out] at P13
      obtain ⟨a6, c6, rfl, _⟩ := P13.out
      clear P13
      simp only [List.length_nil]
      go_wp2_with fail
      refine (known_any w13).mono ?_
      rintro e w14 ⟨rfl, b14⟩
      have L14 := hid (L13.out.below b14)
      have A14 := hid (A13.out.below b14)
      have C14 := hid (C13.out.below b14)
      have B14 := hid (trans_below B13.out b14)
      clear b14 L13 A13 C13 B13
      go_wp2
      go_ret
      exact ⟨rfl, B14.out⟩
  · skip
    have HL0 := hid (show Lst w (.slice a l.length c) l from ⟨a, c, rfl, h1, h2, h3, h4⟩)
    have LN := hid (show l.length ≤ 40 by omega)
    have n40 : ¬ (40 : Int) < (l.length : Int) := by omega
    obtain ⟨q, hq⟩ : ∃ q, q = l := ⟨_, rfl⟩
    rw [← hq] at HL0 LN n40 ⊢
    clear h4 h3 hq h1 h2 h40
    clear l
    go_enter Try.func4, Try.ntmps4
    go_wp2_with fail
    refine (within0 n hn 1048576 (by decide) w).mono ?_
    rintro e w1 ⟨x, rfl, hx, rfl⟩
    go_wp2_with fail
    refine (within0 m hm 1048576 (by decide) w1).mono ?_
    rintro e w2 ⟨y, rfl, hy, rfl⟩
    go_wp2_with fail
    refine (refOf_any (x : Int) w2).mono ?_
    rintro e w1 ⟨va, rfl, o1, b1⟩
    have L1 := hid (HL0.out.below b1)
    have B1 := hid b1
    have A1 := hid o1.lst
    clear b1 HL0 o1
    rw [ofF_nat x (by omega)] at A1
    go_wp2_with fail
    refine (refOf_any (y : Int) w1).mono ?_
    rintro e w2 ⟨vb1, rfl, o2, b2⟩
    have L2 := hid (L1.out.below b2)
    have A2 := hid (A1.out.below b2)
    have B2 := hid (trans_below B1.out b2)
    have C2 := hid o2.lst
    clear b2 L1 A1 B1 o2
    rw [ofF_nat y (by omega)] at C2
    go_wp2_with fail
    refine (lawSame _ q w2 L2.out (by have := LN.out; omega)).mono ?_
    rintro e w3 ⟨rfl, b3⟩
    have L3 := hid (L2.out.below b3)
    have A3 := hid (A2.out.below b3)
    have C3 := hid (C2.out.below b3)
    have B3 := hid (trans_below B2.out b3)
    clear b3 L2 A2 C2 B2
    go_wp2_with fail
    refine (lawSame va (tn x) w3 A3.out (by have := tn_len (k := x) (by omega); omega)).mono ?_
    rintro e w4 ⟨rfl, b4⟩
    have L4 := hid (L3.out.below b4)
    have A4 := hid (A3.out.below b4)
    have C4 := hid (C3.out.below b4)
    have B4 := hid (trans_below B3.out b4)
    clear b4 L3 A3 C3 B3
    go_wp2_with fail
    refine (of_any n w4).mono ?_
    rintro e w5 ⟨v1, rfl, o5, b5⟩
    have L5 := hid (L4.out.below b5)
    have A5 := hid (A4.out.below b5)
    have C5 := hid (C4.out.below b5)
    have B5 := hid (trans_below B4.out b5)
    have P5 := hid o5.lst
    clear b5 L4 A4 C4 B4 o5
    go_wp2_with fail
    refine (refOf_any n w5).mono ?_
    rintro e w6 ⟨v2, rfl, o6, b6⟩
    have L6 := hid (L5.out.below b6)
    have A6 := hid (A5.out.below b6)
    have C6 := hid (C5.out.below b6)
    have P6 := hid (P5.out.below b6)
    have B6 := hid (trans_below B5.out b6)
    have Q6 := hid o6.lst
    clear b6 L5 A5 C5 P5 B5 o6
    go_wp2_with fail
    refine (sameT v1 v2 (ofF n) (ofF n) w6 P6.out Q6.out (by have := ofF_len n; omega) rfl).mono ?_
    rintro e w7 ⟨rfl, b7⟩
    have L7 := hid (L6.out.below b7)
    have A7 := hid (A6.out.below b7)
    have C7 := hid (C6.out.below b7)
    have P7 := hid (P6.out.below b7)
    have Q7 := hid (Q6.out.below b7)
    have B7 := hid (trans_below B6.out b7)
    clear b7 L6 A6 C6 P6 Q6 B6
    clear P7 Q7
    go_wp2_with fail
    refine (joined_any va vb1 (tn x) (tn y) w7 A7.out C7.out (by have := tn_len (k := x) (by omega); omega) (by have := tn_len (k := y) (by omega); omega)).mono ?_
    rintro e w8 ⟨v3, rfl, o8, b8⟩
    have L8 := hid (L7.out.below b8)
    have A8 := hid (A7.out.below b8)
    have C8 := hid (C7.out.below b8)
    have B8 := hid (trans_below B7.out b8)
    have P8 := hid o8.lst
    clear b8 L7 A7 C7 B7 o8
    rw [join_tn (by omega)] at P8
    go_wp2_with fail
    refine (refOf_any ((x : Int) + (y : Int)) w8).mono ?_
    rintro e w9 ⟨v4, rfl, o9, b9⟩
    have L9 := hid (L8.out.below b9)
    have A9 := hid (A8.out.below b9)
    have C9 := hid (C8.out.below b9)
    have P9 := hid (P8.out.below b9)
    have B9 := hid (trans_below B8.out b9)
    have Q9 := hid o9.lst
    clear b9 L8 A8 C8 P8 B8 o9
    rw [show (x : Int) + (y : Int) = ((x + y : Nat) : Int) by omega, ofF_nat _ (by omega)] at Q9
    go_wp2_with fail
    refine (sameT v3 v4 (tn (x + y)) (tn (x + y)) w9 P9.out Q9.out (by have := tn_len (k := x + y) (by omega); omega) rfl).mono ?_
    rintro e w10 ⟨rfl, b10⟩
    have L10 := hid (L9.out.below b10)
    have A10 := hid (A9.out.below b10)
    have C10 := hid (C9.out.below b10)
    have P10 := hid (P9.out.below b10)
    have Q10 := hid (Q9.out.below b10)
    have B10 := hid (trans_below B9.out b10)
    clear b10 L9 A9 C9 P9 Q9 B9
    clear P10 Q10
    go_wp2_with fail
    refine (refRightB _ q w10 L10.out (by have := LN.out; omega)).mono ?_
    rintro e w11 ⟨rfl, b11⟩
    have L11 := hid (L10.out.below b11)
    have A11 := hid (A10.out.below b11)
    have C11 := hid (C10.out.below b11)
    have B11 := hid (trans_below B10.out b11)
    clear b11 L10 A10 C10 B10
    by_cases hr : R q
    · rw [rb_true.2 hr]
      clear hr
      go_wp2_with fail
      refine (known_any w11).mono ?_
      rintro e w12 ⟨rfl, b12⟩
      have L12 := hid (L11.out.below b12)
      have A12 := hid (A11.out.below b12)
      have C12 := hid (C11.out.below b12)
      have B12 := hid (trans_below B11.out b12)
      clear b12 L11 A11 C11 B11
      go_wp2
      go_ret
      exact ⟨rfl, B12.out⟩
    · rw [rb_false.2 hr]
      have J1 : Hid (joinF q (tn x) = []) := hid (if_neg fun e => hr e.1)
      have J2 : Hid (joinF (tn x) q = []) := hid (if_neg fun e => hr e.2)
      clear hr
      go_wp2_with fail
      refine (joined_any _ va q (tn x) w11 L11.out A11.out (by have := LN.out; omega) (by have := tn_len (k := x) (by omega); omega)).mono ?_
      rintro e w12 ⟨v5, rfl, o12, b12⟩
      have L12 := hid (L11.out.below b12)
      have A12 := hid (A11.out.below b12)
      have C12 := hid (C11.out.below b12)
      have B12 := hid (trans_below B11.out b12)
      have P12 := hid o12.lst
      clear b12 L11 A11 C11 B11 o12
      rw [J1.out] at P12
      obtain ⟨a5, c5, rfl, _⟩ := P12.out
      clear P12
      go_wp2_with fail
      refine (joined_any va _ (tn x) q w12 A12.out L12.out (by have := tn_len (k := x) (by omega); omega) (by have := LN.out; omega)).mono ?_
      rintro e w13 ⟨v6, rfl, o13, b13⟩
      have L13 := hid (L12.out.below b13)
      have A13 := hid (A12.out.below b13)
      have C13 := hid (C12.out.below b13)
      have B13 := hid (trans_below B12.out b13)
      have P13 := hid o13.lst
      clear b13 L12 A12 C12 B12 o13
      rw [J2.out] at P13
      obtain ⟨a6, c6, rfl, _⟩ := P13.out
      clear P13
      simp only [List.length_nil]
      go_wp2_with fail
      refine (known_any w13).mono ?_
      rintro e w14 ⟨rfl, b14⟩
      have L14 := hid (L13.out.below b14)
      have A14 := hid (A13.out.below b14)
      have C14 := hid (C13.out.below b14)
      have B14 := hid (trans_below B13.out b14)
      clear b14 L13 A13 C13 B13
      go_wp2
      go_ret
      exact ⟨rfl, B14.out⟩
end Go.Proofs.Ytmfnbgljioecpaa
