/- The walks of SkewnumOne and SkewnumNumbers. -/
import Derived.Test.YtmfnbgljioecpaaWk
namespace Go.Proofs.Ytmfnbgljioecpaa
open Go.ChangeShapes Go.WideShapes Go.ChangeAt Go.RowKit

/-- one more changes three Ranks at most: the others move by one place -/
theorem inc_moves (l : List Int) : ((incS l).length = l.length + 1 ∧ ∀ i, l[i + 2]? = (incS l)[i + 3]?) ∨ (l.length = (incS l).length + 1 ∧ ∀ i, l[i + 2]? = (incS l)[i + 1]?) := by
  match l with
  | [] => left; simp [incS]
  | [a] => left; simp [incS]
  | a :: b :: t =>
    simp only [incS]
    split
    · right; simp
    · left; simp

set_option maxHeartbeats 8000000 in
theorem one_walk (n : Int) (hn : I64 n) (w : World) : Calls Try.prog 5 #[.int .i64 n] w fun e w' => e = .returned (.bool true) ∧ Below w.heap.size w w' := by
  go_enter Try.func5, Try.ntmps5
  go_wp2_with fail
  refine (within1 n hn 1048576 (by decide) (by decide) w).mono ?_
  rintro e w1 ⟨k, rfl, hk1, hk2, rfl⟩
  obtain ⟨j, rfl⟩ : ∃ j, k = j + 1 := ⟨k - 1, by omega⟩
  go_wp2_with fail
  refine (of_any ((j + 1 : Nat) : Int) w1).mono ?_
  rintro e w1 ⟨va, rfl, o1, b1⟩
  have B1 := hid b1
  have A1 := hid o1.lst
  clear b1 o1
  rw [ofF_nat (j + 1) (by omega)] at A1
  go_wp2_with fail
  refine (inc_any va (tn (j + 1)) w1 A1.out (by have := tn_len (k := j + 1) (by omega); omega)).mono ?_
  rintro e w2 ⟨vb1, rfl, o2, b2⟩
  have A2 := hid (A1.out.below b2)
  have B2 := hid (trans_below B1.out b2)
  have C2 := hid o2.lst
  clear b2 A1 B1 o2
  rw [incF_tn (by omega)] at C2
  go_wp2_with fail
  refine (dec_any va (tn (j + 1)) w2 A2.out (by have := tn_len (k := j + 1) (by omega); omega)).mono ?_
  rintro e w3 ⟨vc, rfl, o3, b3⟩
  have A3 := hid (A2.out.below b3)
  have C3 := hid (C2.out.below b3)
  have B3 := hid (trans_below B2.out b3)
  have D3 := hid o3.lst
  clear b3 A2 C2 B2 o3
  rw [decF_tn (by omega)] at D3
  go_wp2_with fail
  refine (rightB va (tn (j + 1)) w3 A3.out (by have := tn_len (k := j + 1) (by omega); omega)).mono ?_
  rintro e w4 ⟨rfl, b4⟩
  have A4 := hid (A3.out.below b4)
  have C4 := hid (C3.out.below b4)
  have D4 := hid (D3.out.below b4)
  have B4 := hid (trans_below B3.out b4)
  clear b4 A3 C3 D3 B3
  rw [rb_true.2 (tn_right (j + 1) (by omega)).1]
  go_wp2_with fail
  refine (valueB va (tn (j + 1)) w4 A4.out (by have := tn_len (k := j + 1) (by omega); omega)).mono ?_
  rintro e w5 ⟨rfl, b5⟩
  have A5 := hid (A4.out.below b5)
  have C5 := hid (C4.out.below b5)
  have D5 := hid (D4.out.below b5)
  have B5 := hid (trans_below B4.out b5)
  clear b5 A4 C4 D4 B4
  rw [vb_tn (by omega)]
  go_wp2_with fail
  refine (valueB vb1 (tn (j + 2)) w5 C5.out (by have := tn_len (k := j + 2) (by omega); omega)).mono ?_
  rintro e w6 ⟨rfl, b6⟩
  have A6 := hid (A5.out.below b6)
  have C6 := hid (C5.out.below b6)
  have D6 := hid (D5.out.below b6)
  have B6 := hid (trans_below B5.out b6)
  clear b6 A5 C5 D5 B5
  rw [vb_tn (by omega)]
  have e1 : (((j + 2 : Nat) : Int) != (j : Int) + 1 + 1) = false := by simp; omega
  go_wp2_with fail
  refine (valueB vc (tn j) w6 D6.out (by have := tn_len (k := j) (by omega); omega)).mono ?_
  rintro e w7 ⟨rfl, b7⟩
  have A7 := hid (A6.out.below b7)
  have C7 := hid (C6.out.below b7)
  have D7 := hid (D6.out.below b7)
  have B7 := hid (trans_below B6.out b7)
  clear b7 A6 C6 D6 B6
  rw [vb_tn (by omega)]
  go_wp2_with fail
  refine (dec_any vb1 (tn (j + 2)) w7 C7.out (by have := tn_len (k := j + 2) (by omega); omega)).mono ?_
  rintro e w8 ⟨v1, rfl, o8, b8⟩
  have A8 := hid (A7.out.below b8)
  have C8 := hid (C7.out.below b8)
  have D8 := hid (D7.out.below b8)
  have B8 := hid (trans_below B7.out b8)
  have P8 := hid o8.lst
  clear b8 A7 C7 D7 B7 o8
  rw [decF_tn (by omega)] at P8
  go_wp2_with fail
  refine (sameT v1 va (tn (j + 1)) (tn (j + 1)) w8 P8.out A8.out (by have := tn_len (k := j + 1) (by omega); omega) rfl).mono ?_
  rintro e w9 ⟨rfl, b9⟩
  have A9 := hid (A8.out.below b9)
  have C9 := hid (C8.out.below b9)
  have D9 := hid (D8.out.below b9)
  have P9 := hid (P8.out.below b9)
  have B9 := hid (trans_below B8.out b9)
  clear b9 A8 C8 D8 P8 B8
  clear P9
  go_wp2_with fail
  refine (inc_any vc (tn j) w9 D9.out (by have := tn_len (k := j) (by omega); omega)).mono ?_
  rintro e w10 ⟨v2, rfl, o10, b10⟩
  have A10 := hid (A9.out.below b10)
  have C10 := hid (C9.out.below b10)
  have D10 := hid (D9.out.below b10)
  have B10 := hid (trans_below B9.out b10)
  have P10 := hid o10.lst
  clear b10 A9 C9 D9 B9 o10
  rw [incF_tn (by omega)] at P10
  go_wp2_with fail
  refine (sameT v2 va (tn (j + 1)) (tn (j + 1)) w10 P10.out A10.out (by have := tn_len (k := j + 1) (by omega); omega) rfl).mono ?_
  rintro e w11 ⟨rfl, b11⟩
  have A11 := hid (A10.out.below b11)
  have C11 := hid (C10.out.below b11)
  have D11 := hid (D10.out.below b11)
  have P11 := hid (P10.out.below b11)
  have B11 := hid (trans_below B10.out b11)
  clear b11 A10 C10 D10 P10 B10
  clear P11 D11
  have MV := hid (inc_moves (tn (j + 1)))
  have LA := hid (tn_len (k := j + 1) (by omega))
  have LB := hid (tn_len (k := j + 2) (by omega))
  generalize hla : tn (j + 1) = la at A11 MV LA
  rw [show tn (j + 2) = incS la by rw [← hla]; rfl] at C11 LB
  generalize incS la = lb at C11 MV LB
  clear hla
  obtain ⟨aa, ca, rfl, qa1, qa2, qa3, qa4⟩ := A11.out
  obtain ⟨ab, cb, rfl, qb1, qb2, qb3, qb4⟩ := C11.out
  have QA := hid qa4
  have QB := hid qb4
  obtain ⟨na, hna⟩ : ∃ na, na = la.length := ⟨_, rfl⟩
  obtain ⟨nb, hnb⟩ : ∃ nb, nb = lb.length := ⟨_, rfl⟩
  have HNA := hid hna
  have HNB := hid hnb
  have la30 := LA.out
  have lb30 := LB.out
  rw [← hna] at qa1 la30 ⊢
  rw [← hnb] at qb1 lb30 ⊢
  clear qa4 qb4 hna hnb qa2 qb2 qa3 qb3 A11 C11
  rcases MV.out with mv | mv
  · skip
    obtain ⟨hl, hm⟩ := mv
    rw [← HNA.out, ← HNB.out] at hl
    have d1 : (na : Int) - (nb : Int) = -1 := by omega
    have HM := hid hm
    have HL := hid hl
    clear hm hl
    go_wp2
    go_loopw [8] (fun iv wr => ∃ (i m : Nat), iv = .int .i64 (i : Int) ∧ i ≤ na ∧ wr = w11.drewN m) (fun iv _ => na + 2 - (intOf iv).toNat)
    case atStart => exact ⟨0, 0, rfl, Nat.zero_le _, rfl⟩
    case round =>
      obtain ⟨i, m, rfl, hi, rfl⟩ := hrel
      by_cases hlt : i + 2 < na
      · skip
        have hx : la[i + 2]? = some (la[i + 2]'(by rw [← HNA.out]; omega)) := List.getElem?_eq_getElem _
        generalize la[i + 2]'(by rw [← HNA.out]; omega) = x at hx
        have hy : lb[i + 3]? = some x := by rw [← HM.out i]; exact hx
        rcases QA.out with e | ⟨ba, oa, rfl, hba, hca⟩
        · rw [e] at hx; simp at hx
        rcases QB.out with e | ⟨bb, ob, rfl, hbb, hcb⟩
        · rw [e] at hy; simp at hy
        have c1 : w11.cell? ⟨ba, oa + (i + 2), none⟩ = some (.int .i64 x) := hca _ _ hx
        have c2 : w11.cell? ⟨bb, ob + (i + 3), none⟩ = some (.int .i64 x) := hcb _ _ hy
        have hl' := HL.out
        have t1 : (i : Int) + 2 < (na : Int) := by omega
        have t2 : (i : Int) + 3 < (nb : Int) := by omega
        have t3 : (i : Int) + 2 - (-1) = (i : Int) + 3 := by omega
        clear hx hy hca hcb hl'
        have t4 : decide (0 ≤ (i : Int) + 3) = true := by simp; omega
        go_wp2_with fail
        go_quiet (fail)
        go_wp2
        go_roundw
        case rel => exact ⟨i + 1, m + nq, by go_num, by omega, by simp [go_sem]⟩
        case measure => simp [intOf]; omega
      · skip
        have t1 : ¬ (i : Int) + 2 < (na : Int) := by omega
        clear QA QB HM
        go_wp2_with fail
        refine (known_any (w11.drewN m)).mono ?_
        rintro e w20 ⟨rfl, b20⟩
        have B20 := hid (trans_below B11.out (trans_below (below_drewN (Below.refl _ _) m) b20))
        clear b20
        go_wp2
        go_ret
        exact ⟨rfl, B20.out⟩
  · skip
    obtain ⟨hl, hm⟩ := mv
    rw [← HNA.out, ← HNB.out] at hl
    have d1 : (na : Int) - (nb : Int) = 1 := by omega
    have HM := hid hm
    have HL := hid hl
    clear hm hl
    go_wp2
    go_loopw [8] (fun iv wr => ∃ (i m : Nat), iv = .int .i64 (i : Int) ∧ i ≤ na ∧ wr = w11.drewN m) (fun iv _ => na + 2 - (intOf iv).toNat)
    case atStart => exact ⟨0, 0, rfl, Nat.zero_le _, rfl⟩
    case round =>
      obtain ⟨i, m, rfl, hi, rfl⟩ := hrel
      by_cases hlt : i + 2 < na
      · skip
        have hx : la[i + 2]? = some (la[i + 2]'(by rw [← HNA.out]; omega)) := List.getElem?_eq_getElem _
        generalize la[i + 2]'(by rw [← HNA.out]; omega) = x at hx
        have hy : lb[i + 1]? = some x := by rw [← HM.out i]; exact hx
        rcases QA.out with e | ⟨ba, oa, rfl, hba, hca⟩
        · rw [e] at hx; simp at hx
        rcases QB.out with e | ⟨bb, ob, rfl, hbb, hcb⟩
        · rw [e] at hy; simp at hy
        have c1 : w11.cell? ⟨ba, oa + (i + 2), none⟩ = some (.int .i64 x) := hca _ _ hx
        have c2 : w11.cell? ⟨bb, ob + (i + 1), none⟩ = some (.int .i64 x) := hcb _ _ hy
        have hl' := HL.out
        have t1 : (i : Int) + 2 < (na : Int) := by omega
        have t2 : (i : Int) + 1 < (nb : Int) := by omega
        have t3 : (i : Int) + 2 - (1) = (i : Int) + 1 := by omega
        clear hx hy hca hcb hl'
        have t4 : decide (0 ≤ (i : Int) + 1) = true := by simp; omega
        go_wp2_with fail
        go_quiet (fail)
        go_wp2
        go_roundw
        case rel => exact ⟨i + 1, m + nq, by go_num, by omega, by simp [go_sem]⟩
        case measure => simp [intOf]; omega
      · skip
        have t1 : ¬ (i : Int) + 2 < (na : Int) := by omega
        clear QA QB HM
        go_wp2_with fail
        refine (known_any (w11.drewN m)).mono ?_
        rintro e w20 ⟨rfl, b20⟩
        have B20 := hid (trans_below B11.out (trans_below (below_drewN (Below.refl _ _) m) b20))
        clear b20
        go_wp2
        go_ret
        exact ⟨rfl, B20.out⟩
end Go.Proofs.Ytmfnbgljioecpaa
