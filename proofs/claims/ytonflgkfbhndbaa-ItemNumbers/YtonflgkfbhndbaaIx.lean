/- Items: the walks of Before, Put, Swap; known. -/
import Derived.Test.YtonflgkfbhndbaaIt
import Derived.Laws.StructEq
namespace Go.Proofs.Ytonflgkfbhndbaa
open Go.ChangeShapes Go.WideShapes Go.ChangeAt Go.RowKit

/-- is the item c before d? -/
def befI (f : Nat → Nat → Int) (c d : Nat) : Bool := bef (f c 7) (f c 8) (f d 7) (f d 8) || (decide (f c 7 = f d 7 ∧ f c 8 = f d 8) && decide (c < d))
theorem cmp_lt {a1 a2 b1 b2 : Int} (h : bef a1 a2 b1 b2 = true) : cmpS a1 a2 b1 b2 = -1 := by unfold cmpS; rw [if_pos h]
theorem cmp_gt {a1 a2 b1 b2 : Int} (h : bef a1 a2 b1 b2 = false) (h' : bef b1 b2 a1 a2 = true) : cmpS a1 a2 b1 b2 = 1 := by unfold cmpS; rw [if_neg (by simp [h]), if_pos h']
theorem cmp_eq {a1 a2 b1 b2 : Int} (h : bef a1 a2 b1 b2 = false) (h' : bef b1 b2 a1 a2 = false) : cmpS a1 a2 b1 b2 = 0 := by unfold cmpS; rw [if_neg (by simp [h]), if_neg (by simp [h'])]

section
variable {w0 w w' : World} {F : Nat → Prop} {pa pm n k t : Nat} {f : Nat → Nat → Int}

set_option maxHeartbeats 1000000 in
theorem beforeI {c d : Nat} (h : HoldA w0 w F pa pm (mk n k f t)) (ht : t ≤ 700000) (hc : c < k) (hd : d < k) :
    Calls Try.prog 20 #[.pointer (some ⟨pa, 0, none⟩), .int .i64 (c : Int), .int .i64 (d : Int)] w fun e w' => e = .returned (.bool (befI f c d)) ∧ HoldA w0 w' F pa pm (mk n k f (t + 4)) ∧ Kept F w w' := by
  have HH := hid h
  clear h
  have C := hid (fun w => compare_any (f c 7) (f c 8) (f d 7) (f d 8) w)
  obtain ⟨r, hr⟩ : ∃ r, cmpS (f c 7) (f c 8) (f d 7) (f d 8) = r := ⟨_, rfl⟩
  rw [hr] at C
  have HR := hid hr
  clear hr
  go_enter Try.func20, Try.ntmps20
  go_wp2_with fail
  refine (entryI HH.out (by omega) hc).mono ?_
  rintro e w1 ⟨rfl, h1, k1⟩
  have H1 := hid h1
  have K1 := hid k1
  clear h1 k1 HH
  go_wp2_with fail
  refine (entryI H1.out (by omega) hd).mono ?_
  rintro e w2 ⟨rfl, h2, k2⟩
  have H2 := hid h2
  have K2 := hid (K1.out.trans' k2)
  clear h2 k2 H1 K1
  go_wp2_with fail
  refine (C.out _).mono ?_
  rintro e w3 ⟨rfl, k3⟩
  have H3 := hid (H2.out.plain k3)
  have K3 := hid (K2.out.trans' k3.any)
  clear k3 H2 K2 C
  by_cases q1 : bef (f c 7) (f c 8) (f d 7) (f d 8) = true
  · obtain rfl : r = -1 := HR.out.symm.trans (cmp_lt q1)
    have Q := hid (show befI f c d = true by unfold befI; rw [q1]; rfl)
    clear q1
    go_wp2
    go_ret
    exact ⟨ret_bool Q.out.symm, H3.out, K3.out⟩
  · replace q1 : bef (f c 7) (f c 8) (f d 7) (f d 8) = false := by simpa using q1
    by_cases q2 : bef (f d 7) (f d 8) (f c 7) (f c 8) = true
    · obtain rfl : r = 1 := HR.out.symm.trans (cmp_gt q1 q2)
      have Q := hid (show befI f c d = false by
        unfold befI; rw [q1]
        simp [bef] at q1 q2 ⊢; omega)
      clear q1 q2
      go_wp2
      go_ret
      exact ⟨ret_bool Q.out.symm, H3.out, K3.out⟩
    · replace q2 : bef (f d 7) (f d 8) (f c 7) (f c 8) = false := by simpa using q2
      obtain rfl : r = 0 := HR.out.symm.trans (cmp_eq q1 q2)
      have Q := hid (show befI f c d = decide (c < d) by
        unfold befI; rw [q1]
        simp [bef] at q1 q2
        rw [show decide (f c 7 = f d 7 ∧ f c 8 = f d 8) = true by simp; omega]
        simp)
      clear q1 q2
      go_wp2
      go_ret
      exact ⟨ret_bool Q.out.symm, H3.out, K3.out⟩

theorem linkI {c i : Nat} (h : HoldA w0 w F pa pm (mk n k f t)) (ht : t ≤ 800000) (hc : c < k) (hi : i < k) :
    Calls Try.prog 28 #[.pointer (some ⟨pa, 0, none⟩), .int .i64 (c : Int), .int .i64 (i : Int)] w fun e w' => e = .returned (.tuple #[]) ∧ HoldA w0 w' F pa pm (mk n k (put (put f c 6 i) i 9 c) (t + 2)) ∧ Kept F w w' := by
  have HH := hid h
  clear h
  go_enter Try.func28, Try.ntmps28
  go_wp2_with fail
  refine (setI 6 (i : Int) HH.out (by omega) hc (by decide)).mono ?_
  rintro e w1 ⟨rfl, h1, k1⟩
  have H1 := hid h1
  have K1 := hid k1
  clear h1 k1 HH
  go_wp2_with fail
  refine (setI 9 (c : Int) H1.out (by omega) hi (by decide)).mono ?_
  rintro e w2 ⟨rfl, h2, k2⟩
  have H2 := hid h2
  have K2 := hid (K1.out.trans' k2)
  clear h2 k2 H1 K1
  go_wp2
  go_end0
  exact ⟨rfl, H2.out, K2.out⟩

theorem noneLiveI {c : Nat} (h : HoldA w0 w F pa pm (mk n k f t)) (hc : c < k) : Calls Try.prog 27 #[.pointer (some ⟨pa, 0, none⟩), .int .i64 (c : Int)] w fun e w' => e = .returned (.bool true) ∧ w' = w := by
  have L := hid (liveI h hc)
  clear h
  have hne : ((c : Int) == -1) = false := by simp
  go_enter Try.func27, Try.ntmps27
  go_wp2_with fail
  refine L.out.mono ?_
  rintro e w1 ⟨rfl, rfl⟩
  go_wp2
  go_ret
  exact ⟨rfl, rfl⟩

set_option maxHeartbeats 1000000 in
theorem putI {c i : Nat} (h : HoldA w0 w F pa pm (mk n k f t)) (ht : t ≤ 800000) (hc : c < k) (hi : i < k) :
    Calls Try.prog 14 #[.pointer (some ⟨pa, 0, none⟩), .int .i64 (c : Int), .int .i64 (i : Int)] w fun e w' => e = .returned (.tuple #[]) ∧ HoldA w0 w' F pa pm (mk n k (put (put f c 6 i) i 9 c) (t + 2)) ∧ Kept F w w' := by
  have HH := hid h
  clear h
  go_enter Try.func14, Try.ntmps14
  go_wp2_with fail
  refine (noneLiveI HH.out hc).mono ?_
  rintro e w1 ⟨rfl, rfl⟩
  go_wp2_with fail
  refine (noneLiveI HH.out hi).mono ?_
  rintro e w2 ⟨rfl, rfl⟩
  go_wp2_with fail
  refine (linkI HH.out ht hc hi).mono ?_
  rintro e w3 ⟨rfl, h3, k3⟩
  have H3 := hid h3
  have K3 := hid k3
  clear h3 k3 HH
  go_wp2
  go_end0
  exact ⟨rfl, H3.out, K3.out⟩

set_option maxHeartbeats 1000000 in
theorem swapI_same {c : Nat} (w : World) : Calls Try.prog 16 #[.pointer (some ⟨pa, 0, none⟩), .int .i64 (c : Int), .int .i64 (c : Int)] w fun e w' => e = .returned (.tuple #[]) ∧ w' = w := by
  go_enter Try.func16, Try.ntmps16
  go_wp2
  refine bodyPost_ret (results_none rfl _ _ _) rfl ?_
  exact ⟨rfl, rfl⟩

/-- the items i of c and j of d, one for the other -/
def swp (f : Nat → Nat → Int) (c d i j : Nat) : Nat → Nat → Int := put (put (put (put f c 6 j) j 9 c) d 6 i) i 9 d
set_option maxHeartbeats 1000000 in
theorem swapI {c d i j : Nat} (h : HoldA w0 w F pa pm (mk n k f t)) (ht : t ≤ 700000) (hc : c < k) (hd : d < k) (hne : c ≠ d) (hi : i < k) (hj : j < k) (h1 : f c 6 = i) (h2 : f d 6 = j) (hn : k ≤ n) :
    Calls Try.prog 16 #[.pointer (some ⟨pa, 0, none⟩), .int .i64 (c : Int), .int .i64 (d : Int)] w fun e w' => e = .returned (.tuple #[]) ∧ HoldA w0 w' F pa pm (mk n k (swp f c d i j) (t + 6)) ∧ Kept F w w' := by
  have HH := hid h
  have E1 := hid h1
  have E2 := hid h2
  have hne' : ((c : Int) == (d : Int)) = false := by simp; omega
  clear h h1 h2
  go_enter Try.func16, Try.ntmps16
  go_wp2_with fail
  refine (liveI HH.out hc).mono ?_
  rintro e w1 ⟨rfl, rfl⟩
  go_wp2_with fail
  refine (liveI HH.out hd).mono ?_
  rintro e w2 ⟨rfl, rfl⟩
  go_wp2_with fail
  refine (cellI 6 HH.out (by omega) hc (by decide) E1.out (by omega)).mono ?_
  rintro e w3 ⟨rfl, h3, k3⟩
  have H3 := hid h3
  have K3 := hid k3
  clear h3 k3 HH
  go_wp2_with fail
  refine (cellI 6 H3.out (by omega) hd (by decide) E2.out (by omega)).mono ?_
  rintro e w4 ⟨rfl, h4, k4⟩
  have H4 := hid h4
  have K4 := hid (K3.out.trans' k4)
  clear h4 k4 H3 K3
  go_wp2_with fail
  refine (linkI H4.out (by omega) hc hj).mono ?_
  rintro e w5 ⟨rfl, h5, k5⟩
  have H5 := hid h5
  have K5 := hid (K4.out.trans' k5)
  clear h5 k5 H4 K4
  go_wp2_with fail
  refine (linkI H5.out (by omega) hd hi).mono ?_
  rintro e w6 ⟨rfl, h6, k6⟩
  have H6 := hid h6
  have K6 := hid (K5.out.trans' k6)
  clear h6 k6 H5 K5
  go_wp2
  go_end0
  exact ⟨rfl, H6.out, K6.out⟩
end

theorem equal24 (x y : Int × Int) (w : World) : (Op.equalIn 10000 24 (.agg #[.int .i64 x.1, .int .i64 x.2]) (.agg #[.int .i64 y.1, .int .i64 y.2])).run Try.prog w = .ok (decide (x = y)) w := by
  have u2 := Try.underlying2
  have a2 := Try.isAgg2
  have z2 := Try.sizeOf2
  have hS : Try.prog.underlying 24 = some (.struct (Try.prog.fieldsOf 24)) := by kernel_rfl
  have hp : Try.prog.stoodInHeld 24 = false := by kernel_rfl
  rw [show (10000 : Nat) = 9999 + 1 from rfl, run_equalIn_agg w 9999 24 _ _ hS hp]
  simp only [Program.fieldsOf, Try.underlying24]
  go_simp
  obtain ⟨x1, x2⟩ := x
  obtain ⟨y1, y2⟩ := y
  by_cases h1 : x1 = y1 <;> by_cases h2 : x2 = y2 <;> simp [h1, h2]
theorem eql24 (x y : Int × Int) (w : World) : (binOp .eql 24 (.agg #[.int .i64 x.1, .int .i64 x.2]) (.agg #[.int .i64 y.1, .int .i64 y.2])).run Try.prog w = .ok (.bool (decide (x = y))) w := by
  rw [run_eql_struct, equal24]
  rfl
theorem neq24 (x y : Int × Int) (w : World) : (binOp .neq 24 (.agg #[.int .i64 x.1, .int .i64 x.2]) (.agg #[.int .i64 y.1, .int .i64 y.2])).run Try.prog w = .ok (.bool (!decide (x = y))) w := by
  rw [run_neq_struct, equal24]
  rfl
end Go.Proofs.Ytonflgkfbhndbaa
