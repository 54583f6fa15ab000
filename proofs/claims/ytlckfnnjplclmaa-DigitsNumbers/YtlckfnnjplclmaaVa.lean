/- The walks of Value, of the reference's, and of tells. -/
import Derived.Test.YtlckfnnjplclmaaRe
namespace Go.Proofs.Ytlckfnnjplclmaa
open Go.ChangeShapes Go.WideShapes Go.ChangeAt Go.RowKit

def vb (l : List Int) : Int := if rgB l = true then vl l else 0

theorem rgB_parts {l : List Int} (h : rgB l = true) : l.length ≤ 40 ∧ (∀ x ∈ l, 0 ≤ x ∧ x ≤ 2) := by
  unfold rgB at h
  simp only [Bool.and_eq_true, decide_eq_true_eq] at h
  exact ⟨h.1.1, rg_mem _ _ h.2⟩
theorem vl_append : ∀ l m : List Int, vl (l ++ m) = vl l + 2 ^ l.length * vl m
  | [], m => by simp [vl]
  | a :: t, m => by
    simp only [List.cons_append, vl, vl_append t m, List.length_cons, Int.pow_succ]
    rw [Int.mul_add, ← Int.mul_assoc, Int.mul_comm 2 (2 ^ t.length)]; omega
theorem vl_take {l : List Int} {i : Nat} {x : Int} (h : l[i]? = some x) : vl (l.take (i + 1)) = vl (l.take i) + x * 2 ^ i := by
  have hi : i < l.length := (List.getElem?_eq_some_iff.1 h).1
  rw [List.take_add_one, h, vl_append]
  simp only [Option.toList_some, vl, List.length_take]
  rw [Nat.min_eq_left (by omega), Int.mul_comm]; simp
theorem p40 {n : Nat} (h : n ≤ 40) : (2 : Int) ^ n ≤ 1099511627776 := by
  have h1 : (2 : Nat) ^ n ≤ 2 ^ 40 := Nat.pow_le_pow_right (by omega) h
  have h2 : (2 : Int) ^ n = ((2 ^ n : Nat) : Int) := by simp
  rw [h2]
  have : (2 : Nat) ^ 40 = 1099511627776 := by decide
  omega
theorem p0 (n : Nat) : (1 : Int) ≤ 2 ^ n := by
  have h1 : 0 < (2 : Nat) ^ n := Nat.two_pow_pos n
  have h2 : (2 : Int) ^ n = ((2 ^ n : Nat) : Int) := by simp
  rw [h2]; omega
theorem vl_piece {l : List Int} (h : rgB l = true) {m : List Int} (hm : ∀ x ∈ m, x ∈ l) (hl : m.length ≤ 40) : 0 ≤ vl m ∧ vl m ≤ 2199023255552 := by
  obtain ⟨h1, h2⟩ := rgB_parts h
  have a := vl_nonneg m fun x hx => (h2 x (hm x hx)).1
  have b := vl_le m fun x hx => (h2 x (hm x hx)).2
  have c := p40 hl
  omega

theorem vl_step {l : List Int} (h : rgB l = true) {i : Nat} {y : Int} (hy : l[i]? = some y) : wrap64 (vl (l.take i) + wrap64 (y * 2 ^ i)) = vl (l.take (i + 1)) := by
  obtain ⟨h1, h2⟩ := rgB_parts h
  have hi : i < l.length := (List.getElem?_eq_some_iff.1 hy).1
  have a := vl_piece h (m := l.take i) (fun x hx => List.mem_of_mem_take hx) (by simp; omega)
  have b := vl_piece h (m := l.take (i + 1)) (fun x hx => List.mem_of_mem_take hx) (by simp; omega)
  have c := vl_take hy
  rw [IntWalk.wrap64_in (y * 2 ^ i) ⟨by omega, by omega⟩, IntWalk.wrap64_in _ ⟨by omega, by omega⟩, c]
theorem vl_back {l : List Int} (h : rgB l = true) {i : Nat} {y : Int} (hy : l[i]? = some y) : wrap64 (wrap64 (2 * vl (l.drop (i + 1))) + y) = vl (l.drop i) := by
  obtain ⟨h1, h2⟩ := rgB_parts h
  have a := vl_piece h (m := l.drop (i + 1)) (fun x hx => List.mem_of_mem_drop hx) (by simp; omega)
  have b := vl_piece h (m := l.drop i) (fun x hx => List.mem_of_mem_drop hx) (by simp; omega)
  rw [drop_at hy] at b ⊢
  simp only [vl] at b ⊢
  have y2 := h2 y (List.mem_of_getElem? hy)
  rw [IntWalk.wrap64_in (2 * vl (l.drop (i + 1))) ⟨by omega, by omega⟩, IntWalk.wrap64_in _ ⟨by omega, by omega⟩]; omega

set_option maxHeartbeats 2000000 in
theorem val_any (v : Value) (l : List Int) (w : World) (h : Lst w v l) (hl : l.length ≤ 1000) :
    Calls Try.prog 21 #[v] w fun e w' => e = .returned (.tuple #[.int .i64 (vb l), .bool (rgB l)]) ∧ w' = w := by
  have RT := hid (reg_any v l w h hl)
  obtain ⟨a, c, rfl, h1, h2, h3, h4⟩ := h
  have H4 := hid h4
  clear h4 h3 h2
  go_enter Try.func21, Try.ntmps21
  go_wp2_with fail
  refine RT.out.mono ?_
  rintro e w1 ⟨rfl, rfl⟩
  by_cases hr : rgB l = true
  · have HR := hid hr
    have HV : Hid (vb l = vl l) := hid (if_pos hr)
    rw [hr]
    clear hr RT
    go_wp2
    go_loopw [4, 12] (fun sv iv wr => ∃ (i : Nat), iv = .int .i64 (i : Int) ∧ sv = .int .i64 (vl (l.take i)) ∧ i ≤ l.length ∧ w1 = wr) (fun _ iv _ => l.length - (intOf iv).toNat)
    case atStart => exact ⟨0, rfl, by simp [vl], Nat.zero_le _, rfl⟩
    case round =>
      obtain ⟨i, rfl, rfl, hi, rfl⟩ := hrel
      by_cases hlt : i < l.length
      · have hlt' : (i : Int) < (l.length : Int) := by omega
        obtain ⟨y, hy⟩ : ∃ y, l[i]? = some y := ⟨_, List.getElem?_eq_getElem hlt⟩
        rcases H4.out with e | ⟨b, off, rfl, hb, hc⟩
        · subst e; simp at hlt
        have c2 : w1.cell? ⟨b, off + i, none⟩ = some (.int .i64 y) := hc _ _ hy
        have HT := hid (vl_step HR.out hy)
        have h40 := (rgB_parts HR.out).1
        clear hc hy
        go_wp2
        go_roundw
        case rel => exact ⟨i + 1, by go_num, by rw [HT.out], by omega, trivial⟩
        case measure => simp [intOf]; omega
      · obtain rfl : i = l.length := by omega
        have HT : Hid (vl (l.take l.length) = vb l) := hid (by rw [List.take_length, HV.out])
        go_wp2
        go_ret2
        exact ⟨by rw [HR.out, ← HT.out]; rfl, rfl⟩
  · have hr' : rgB l = false := by simpa using hr
    have HV : Hid (vb l = 0) := hid (if_neg hr)
    have HR := hid hr'
    rw [hr']
    clear hr hr' RT
    go_wp2
    go_ret2
    exact ⟨by rw [HV.out, HR.out]; rfl, rfl⟩

set_option maxHeartbeats 2000000 in
theorem refVal_any (v : Value) (l : List Int) (w : World) (h : Lst w v l) (hl : l.length ≤ 1000) :
    Calls Try.prog 22 #[v] w fun e w' => e = .returned (.tuple #[.int .i64 (vb l), .bool (rgB l)]) ∧ w' = w := by
  have RT := hid (refReg_any v l w h hl)
  obtain ⟨a, c, rfl, h1, h2, h3, h4⟩ := h
  have H4 := hid h4
  clear h4 h3 h2
  go_enter Try.func22, Try.ntmps22
  go_wp2_with fail
  refine RT.out.mono ?_
  rintro e w1 ⟨rfl, rfl⟩
  by_cases hr : rgB l = true
  · have HR := hid hr
    have HV : Hid (vb l = vl l) := hid (if_pos hr)
    rw [hr]
    clear hr RT
    go_wp2
    go_loopw [4, 5] (fun sv iv wr => ∃ (j : Nat), iv = .int .i64 ((j : Int) - 1) ∧ sv = .int .i64 (vl (l.drop j)) ∧ j ≤ l.length ∧ w1 = wr) (fun _ iv _ => (intOf iv + 1).toNat)
    case atStart => exact ⟨l.length, by go_num, by simp [vl], Nat.le_refl _, rfl⟩
    case round =>
      obtain ⟨j, rfl, rfl, hi, rfl⟩ := hrel
      cases j with
      | succ i =>
        have hii : ((i + 1 : Nat) : Int) - 1 = (i : Int) := by omega
        rw [hii]
        clear hii
        have hlt : i < l.length := by omega
        have hlt' : (i : Int) < (l.length : Int) := by omega
        obtain ⟨y, hy⟩ : ∃ y, l[i]? = some y := ⟨_, List.getElem?_eq_getElem hlt⟩
        rcases H4.out with e | ⟨b, off, rfl, hb, hc⟩
        · subst e; simp at hlt
        have c2 : w1.cell? ⟨b, off + i, none⟩ = some (.int .i64 y) := hc _ _ hy
        have HT := hid (vl_back HR.out hy)
        have h40 := (rgB_parts HR.out).1
        clear hc hy
        go_wp2
        go_roundw
        case rel => exact ⟨i, by go_num, by rw [HT.out], by omega, trivial⟩
        case measure => simp [intOf]
      | zero =>
        rw [show ((0 : Nat) : Int) - 1 = -1 from rfl]
        have HT : Hid (vl (l.drop 0) = vb l) := hid (by rw [List.drop_zero, HV.out])
        go_wp2
        go_ret2
        exact ⟨by rw [HR.out, ← HT.out]; rfl, rfl⟩
  · have hr' : rgB l = false := by simpa using hr
    have HV : Hid (vb l = 0) := hid (if_neg hr)
    have HR := hid hr'
    rw [hr']
    clear hr hr' RT
    go_wp2
    go_ret2
    exact ⟨by rw [HV.out, HR.out]; rfl, rfl⟩

set_option maxHeartbeats 1000000 in
theorem tells_any (v : Value) (l : List Int) (w : World) (h : Lst w v l) (hl : l.length ≤ 1000) :
    Calls Try.prog 14 #[v] w fun e w' => e = .returned (.bool true) ∧ w' = w := by
  have H1 := hid (val_any v l w h hl)
  have H2 := hid (refVal_any v l w h hl)
  have H3 := hid (reg_any v l w h hl)
  have H4 := hid (refReg_any v l w h hl)
  clear h
  obtain ⟨x, hx⟩ : ∃ x, x = vb l := ⟨_, rfl⟩
  obtain ⟨b, hb⟩ : ∃ b, b = rgB l := ⟨_, rfl⟩
  rw [← hx, ← hb] at H1 H2
  rw [← hb] at H3 H4
  have e1 : (x == x) = true := by simp
  have e2 : (b == b) = true := by simp
  clear hx hb
  go_enter Try.func14, Try.ntmps14
  go_wp2_with fail
  refine H1.out.mono ?_
  rintro e w1 ⟨rfl, rfl⟩
  go_wp2_with fail
  refine H2.out.mono ?_
  rintro e w2 ⟨rfl, rfl⟩
  go_wp2_with fail
  refine H3.out.mono ?_
  rintro e w3 ⟨rfl, rfl⟩
  go_wp2_with fail
  refine H4.out.mono ?_
  rintro e w4 ⟨rfl, rfl⟩
  go_wp2
  go_ret
  exact ⟨rfl, rfl⟩
end Go.Proofs.Ytlckfnnjplclmaa
