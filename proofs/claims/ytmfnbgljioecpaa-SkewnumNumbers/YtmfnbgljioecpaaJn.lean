/- The walks of Joined, of the laws' same and known. -/
import Derived.Test.YtmfnbgljioecpaaOf
namespace Go.Proofs.Ytmfnbgljioecpaa
open Go.ChangeShapes Go.WideShapes Go.ChangeAt Go.RowKit

theorem drew_below {w w' : World} (h : ∃ n, w' = w.drewN n) : Below w.heap.size w w' := by obtain ⟨n, rfl⟩ := h; exact below_drewN (Below.refl _ _) n
theorem rightB (v : Value) (l : List Int) (w : World) (h : Lst w v l) (hl : l.length ≤ 1000) : Calls Try.prog 18 #[v] w fun e w' => e = .returned (.bool (rb l)) ∧ Below w.heap.size w w' := (right_any v l w h hl).mono fun _ _ ⟨a, b⟩ => ⟨a, drew_below b⟩
theorem refRightB (v : Value) (l : List Int) (w : World) (h : Lst w v l) (hl : l.length ≤ 1000) : Calls Try.prog 17 #[v] w fun e w' => e = .returned (.bool (rb l)) ∧ Below w.heap.size w w' := (refRight_any v l w h hl).mono fun _ _ ⟨a, b⟩ => ⟨a, drew_below b⟩
theorem valueB (v : Value) (l : List Int) (w : World) (h : Lst w v l) (hl : l.length ≤ 1000) : Calls Try.prog 10 #[v] w fun e w' => e = .returned (.int .i64 (vb l)) ∧ Below w.heap.size w w' := (value_any v l w h hl).mono fun _ _ ⟨a, b⟩ => ⟨a, drew_below b⟩
theorem refValueB (v : Value) (l : List Int) (w : World) (h : Lst w v l) (hl : l.length ≤ 1000) : Calls Try.prog 24 #[v] w fun e w' => e = .returned (.int .i64 (vb l)) ∧ Below w.heap.size w w' := (refValue_any v l w h hl).mono fun _ _ ⟨a, b⟩ => ⟨a, drew_below b⟩
theorem sameB (u v : Value) (l m : List Int) (w : World) (hu : Lst w u l) (hv : Lst w v m) (hl : l.length ≤ 1000) (hm : m.length ≤ 1000) : Calls Try.prog 8 #[u, v] w fun e w' => e = .returned (.bool (decide (l = m))) ∧ Below w.heap.size w w' := (same_any u v l m w hu hv hl hm).mono fun _ _ ⟨a, b⟩ => ⟨a, drew_below b⟩
theorem sameT (u v : Value) (l m : List Int) (w : World) (hu : Lst w u l) (hv : Lst w v m) (hl : l.length ≤ 1000) (e : l = m) : Calls Try.prog 8 #[u, v] w fun e w' => e = .returned (.bool true) ∧ Below w.heap.size w w' := by
  have := sameB u v l m w hu hv hl (by rw [← e]; exact hl)
  rwa [decide_eq_true e] at this
theorem trans_below {a b c : World} (h : Below a.heap.size a b) (k : Below b.heap.size b c) : Below a.heap.size a c := h.trans (k.mono h.size)

open Classical in
noncomputable def joinF (l m : List Int) : List Int := if R l ∧ R m then ofF (vl l + vl m) else []

set_option maxHeartbeats 1000000 in
theorem joined_any (u v : Value) (l m : List Int) (w : World) (hu : Lst w u l) (hv : Lst w v m) (hl : l.length ≤ 900) (hm : m.length ≤ 900) :
    Calls Try.prog 16 #[u, v] w fun e w' => ∃ v', e = .returned v' ∧ Own w' w.heap.size v' (joinF l m) ∧ Below w.heap.size w w' := by
  have HU := hid hu
  have HV := hid hv
  clear hu hv
  go_enter Try.func16, Try.ntmps16
  go_wp2_with fail
  refine (rightB u l w HU.out (by omega)).mono ?_
  rintro e w1 ⟨rfl, b1⟩
  have B1 := hid b1
  clear b1
  by_cases hr : R l
  · rw [rb_true.2 hr]
    go_wp2_with fail
    refine (rightB v m w1 (HV.out.below B1.out) (by omega)).mono ?_
    rintro e w2 ⟨rfl, b2⟩
    have B2 := hid (trans_below B1.out b2)
    clear b2 B1
    by_cases hr2 : R m
    · rw [rb_true.2 hr2]
      have V1 : vb l = vl l := if_pos hr
      have V2 : vb m = vl m := if_pos hr2
      have q1 := vl_le l hr.1
      have q2 := vl_le m hr2.1
      have q3 := vl_nonneg l
      have q4 := vl_nonneg m
      have HE : Hid (joinF l m = ofF (vl l + vl m)) := hid (if_pos ⟨hr, hr2⟩)
      obtain ⟨x, hx⟩ : ∃ x, x = vl l := ⟨_, rfl⟩
      obtain ⟨y, hy⟩ : ∃ y, y = vl m := ⟨_, rfl⟩
      rw [← hx] at V1 q1 q3 HE
      rw [← hy] at V2 q2 q4 HE
      have W1 := hid V1
      have W2 := hid V2
      clear V1 V2 hx hy hr hr2
      go_wp2_with fail
      refine (valueB u l w2 (HU.out.below B2.out) (by omega)).mono ?_
      rintro e w3 ⟨rfl, b3⟩
      have B3 := hid (trans_below B2.out b3)
      clear b3 B2
      rw [W1.out]
      go_wp2_with fail
      refine (valueB v m w3 (HV.out.below B3.out) (by omega)).mono ?_
      rintro e w4 ⟨rfl, b4⟩
      have B4 := hid (trans_below B3.out b4)
      clear b4 B3
      rw [W2.out]
      go_wp2_with fail
      refine (of_any (x + y) w4).mono ?_
      rintro e w5 ⟨v', rfl, o5, b5⟩
      have B5 := hid (trans_below B4.out b5)
      have O5 := hid (o5.base B4.out.size)
      clear o5 b5 B4
      go_wp2
      go_ret
      exact ⟨_, rfl, by rw [HE.out]; exact O5.out, B5.out⟩
    · rw [rb_false.2 hr2]
      have HE : Hid (joinF l m = []) := hid (if_neg (fun e => hr2 e.2))
      clear hr hr2
      go_wp2
      go_ret
      exact ⟨_, rfl, by rw [HE.out]; exact Own.nil _ _, B2.out⟩
  · rw [rb_false.2 hr]
    have HE : Hid (joinF l m = []) := hid (if_neg (fun e => hr e.1))
    clear hr
    go_wp2
    go_ret
    exact ⟨_, rfl, by rw [HE.out]; exact Own.nil _ _, B1.out⟩

theorem incF_len {l : List Int} : (incF l).length ≤ l.length + 1 := by
  unfold incF
  split
  · match l with
    | [] => simp [incS]
    | [a] => simp [incS]
    | a :: b :: t => simp only [incS]; split <;> simp
  · simp
theorem decF_len {l : List Int} : (decF l).length ≤ l.length + 1 := by
  unfold decF
  split
  · match l with
    | [] => simp [decS]
    | a :: t => simp only [decS]; split <;> simp <;> omega
  · simp

set_option maxHeartbeats 1000000 in
theorem lawSame (v : Value) (l : List Int) (w : World) (h : Lst w v l) (hl : l.length ≤ 800) : Calls Try.prog 12 #[v] w fun e w' => e = .returned (.bool true) ∧ Below w.heap.size w w' := by
  have H := hid h
  clear h
  have LI := hid (@incF_len l)
  have LD := hid (@decF_len l)
  go_enter Try.func12, Try.ntmps12
  go_wp2_with fail
  refine (refInc_any v l w H.out (by omega)).mono ?_
  rintro e w1 ⟨va, ba, rfl, o1, b1⟩
  have B1 := hid b1
  have A1 := hid o1.lst
  clear o1 b1
  go_wp2_with fail
  refine (refDec_any v l w1 (H.out.below B1.out) (by omega)).mono ?_
  rintro e w2 ⟨vb', bb, rfl, o2, b2⟩
  have A2 := hid (A1.out.below b2)
  have D2 := hid o2.lst
  have B2 := hid (trans_below B1.out b2)
  clear o2 b2 A1 B1
  go_wp2_with fail
  refine (rightB v l w2 (H.out.below B2.out) (by omega)).mono ?_
  rintro e w3 ⟨rfl, b3⟩
  have A3 := hid (A2.out.below b3)
  have D3 := hid (D2.out.below b3)
  have B3 := hid (trans_below B2.out b3)
  clear b3 A2 D2 B2
  obtain ⟨r, hr⟩ : ∃ r, r = rb l := ⟨_, rfl⟩
  have HR := hid hr
  rw [← hr]
  clear hr
  go_wp2_with fail
  refine (refRightB v l w3 (H.out.below B3.out) (by omega)).mono ?_
  rintro e w4 ⟨rfl, b4⟩
  have A4 := hid (A3.out.below b4)
  have D4 := hid (D3.out.below b4)
  have B4 := hid (trans_below B3.out b4)
  clear b4 A3 D3 B3
  rw [← HR.out]
  have hrr : (r == r) = true := by simp
  go_wp2_with fail
  refine (valueB v l w4 (H.out.below B4.out) (by omega)).mono ?_
  rintro e w5 ⟨rfl, b5⟩
  have A5 := hid (A4.out.below b5)
  have D5 := hid (D4.out.below b5)
  have B5 := hid (trans_below B4.out b5)
  clear b5 A4 D4 B4
  obtain ⟨x, hx⟩ : ∃ x, x = vb l := ⟨_, rfl⟩
  have HX := hid hx
  rw [← hx]
  clear hx
  go_wp2_with fail
  refine (refValueB v l w5 (H.out.below B5.out) (by omega)).mono ?_
  rintro e w6 ⟨rfl, b6⟩
  have A6 := hid (A5.out.below b6)
  have D6 := hid (D5.out.below b6)
  have B6 := hid (trans_below B5.out b6)
  clear b6 A5 D5 B5
  rw [← HX.out]
  have hxx : (x == x) = true := by simp
  go_wp2_with fail
  refine (inc_any v l w6 (H.out.below B6.out) (by omega)).mono ?_
  rintro e w7 ⟨v7, rfl, o7, b7⟩
  have A7 := hid (A6.out.below b7)
  have D7 := hid (D6.out.below b7)
  have B7 := hid (trans_below B6.out b7)
  have O7 := hid o7.lst
  clear b7 o7 A6 D6 B6
  go_wp2_with fail
  refine (sameT v7 va (incF l) (incF l) w7 O7.out A7.out (by have := LI.out; omega) rfl).mono ?_
  rintro e w8 ⟨rfl, b8⟩
  have D8 := hid (D7.out.below b8)
  have B8 := hid (trans_below B7.out b8)
  clear b8 A7 D7 B7 O7
  go_wp2_with fail
  refine (dec_any v l w8 (H.out.below B8.out) (by omega)).mono ?_
  rintro e w9 ⟨v9, rfl, o9, b9⟩
  have D9 := hid (D8.out.below b9)
  have B9 := hid (trans_below B8.out b9)
  have O9 := hid o9.lst
  clear b9 o9 D8 B8
  go_wp2_with fail
  refine (sameT v9 vb' (decF l) (decF l) w9 O9.out D9.out (by have := LD.out; omega) rfl).mono ?_
  rintro e w10 ⟨rfl, b10⟩
  have B10 := hid (trans_below B9.out b10)
  clear b10 D9 O9 B9
  go_wp2
  go_ret
  exact ⟨rfl, B10.out⟩

theorem R00 : R [0, 0] := ⟨by simp, by simp, fun a b t h => by simp at h; omega⟩
theorem R1 : R [1] := ⟨by simp, by simp, by simp⟩
theorem k1 : ofF 5 = [0, 0, 1] := by decide
theorem k2 : incF [0, 0] = [1] := by unfold incF; rw [if_pos ⟨R00, by simp⟩]; rfl
theorem k3 : decF [1] = [0, 0] := by unfold decF; rw [if_pos R1]; rfl
theorem k4 : vb [1, 0] = -1 := if_neg fun h => by have := h.2.2 1 0 [] rfl; omega
theorem alloc_below {w0 w : World} (h : Below w0.heap.size w0 w) (o : Obj) : Below w0.heap.size w0 (w.alloc o) := h.alloc h.size _

set_option maxHeartbeats 1000000 in
theorem known_any (w : World) : Calls Try.prog 14 #[] w fun e w' => e = .returned (.bool true) ∧ Below w.heap.size w w' := by
  go_enter Try.func14, Try.ntmps14
  go_wp2_with fail
  refine (of_any 5 w).mono ?_
  rintro e w1 ⟨v1, rfl, o1, b1⟩
  have B1 := hid b1
  have O1 := hid (k1 ▸ o1)
  clear o1 b1
  go_wp2_with fail
  refine (sameT v1 _ [0, 0, 1] [0, 0, 1] _ (O1.out.lst.below (alloc_below (Below.refl _ _) _)) (own_lit0 w1 0 (Nat.zero_le _) [0, 0, 1] (by simp) _ rfl).lst (by simp) rfl).mono ?_
  rintro e w2 ⟨rfl, b2⟩
  have B2 := hid (trans_below (alloc_below B1.out _) b2)
  clear b2 B1 O1
  go_wp2_with fail
  refine (inc_any _ [0, 0] _ (own_lit0 w2 0 (Nat.zero_le _) [0, 0] (by simp) _ rfl).lst (by simp)).mono ?_
  rintro e w3 ⟨v3, rfl, o3, b3⟩
  have B3 := hid (trans_below (alloc_below B2.out _) b3)
  have O3 := hid (k2 ▸ o3)
  clear o3 b3 B2
  go_wp2_with fail
  refine (sameT v3 _ [1] [1] _ (O3.out.lst.below (alloc_below (Below.refl _ _) _)) (own_lit0 w3 0 (Nat.zero_le _) [1] (by simp) _ rfl).lst (by simp) rfl).mono ?_
  rintro e w4 ⟨rfl, b4⟩
  have B4 := hid (trans_below (alloc_below B3.out _) b4)
  clear b4 B3 O3
  go_wp2_with fail
  refine (dec_any _ [1] _ (own_lit0 w4 0 (Nat.zero_le _) [1] (by simp) _ rfl).lst (by simp)).mono ?_
  rintro e w5 ⟨v5, rfl, o5, b5⟩
  have B5 := hid (trans_below (alloc_below B4.out _) b5)
  have O5 := hid (k3 ▸ o5)
  clear o5 b5 B4
  go_wp2_with fail
  refine (sameT v5 _ [0, 0] [0, 0] _ (O5.out.lst.below (alloc_below (Below.refl _ _) _)) (own_lit0 w5 0 (Nat.zero_le _) [0, 0] (by simp) _ rfl).lst (by simp) rfl).mono ?_
  rintro e w6 ⟨rfl, b6⟩
  have B6 := hid (trans_below (alloc_below B5.out _) b6)
  clear b6 B5 O5
  go_wp2_with fail
  refine (valueB _ [1, 0] _ (own_lit0 w6 0 (Nat.zero_le _) [1, 0] (by simp) _ rfl).lst (by simp)).mono ?_
  rintro e w7 ⟨rfl, b7⟩
  have B7 := hid (trans_below (alloc_below B6.out _) b7)
  clear b7 B6
  rw [k4]
  go_wp2_with fail
  refine (rightB _ [] w7 (Lst.nil _) (by simp)).mono ?_
  rintro e w8 ⟨rfl, b8⟩
  have B8 := hid (trans_below B7.out b8)
  clear b8 B7
  rw [rb_true.2 R_nil]
  go_wp2
  go_ret
  exact ⟨rfl, B8.out⟩
end Go.Proofs.Ytmfnbgljioecpaa
