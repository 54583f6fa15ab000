/- The walks of order.Bits, order.Limit, order.Before, order.Compare and of the reference's Bits, Add, Limit, Before, Compare: what each answers, as a plain function. -/
import Derived.Test.YtjjahhiaelaocaaAdd
import Derived.Test.YtjjahhiaelaocaaBits
import Derived.Below
namespace Go.Proofs.Ytjjahhiaelaocaa
open Go.ChangeShapes Go.WideShapes Go.ChangeAt Go.RowKit

/-- how many binary digits n has; none of a number below 1 -/
def bitsS (n : Int) : Nat := Lib.bitLen n.toNat

theorem bitsS_neg {n : Int} (h : n < 1) : bitsS n = 0 := by unfold bitsS; rw [show n.toNat = 0 by omega]; decide
theorem bitsS_le {n : Int} (h : I64 n) : bitsS n ≤ 64 := Lib.bitLen_le _ 64 (by decide) (by obtain ⟨_, _⟩ := h; omega)
theorem bitsS_half {n : Int} (h0 : 0 < n) (h : n ≤ 9223372036854775807) : bitsS n = 1 + bitsS (n / 2) := by
  unfold bitsS
  rw [Lib.bitLen_half _ (by omega) (by omega), show n.toNat / 2 = (n / 2).toNat by omega]

set_option maxHeartbeats 400000 in
theorem bits_any (n : Int) (hn : I64 n) (w : World) :
    Calls Try.prog 21 #[.int .i64 n] w fun e w' => e = .returned (.int .i64 (bitsS n)) ∧ w' = w := by
  obtain ⟨h1, h2⟩ := hn
  by_cases p : n < 1
  · have e := bitsS_neg p
    have HE : Hid (bitsS n = 0) := e
    clear e
    go_enter Try.func21, Try.ntmps21
    go_wp2
    go_ret
    exact ⟨ret_int (by rw [HE.out]; rfl), rfl⟩
  · go_enter Try.func21, Try.ntmps21
    go_wp2_with fail
    refine (len_any n _ (by omega) (by omega)).mono ?_
    rintro e w' ⟨rfl, rfl⟩
    go_wp2
    go_ret
    exact ⟨rfl, rfl⟩

set_option maxHeartbeats 400000 in
theorem refBits_any (n : Int) (hn : I64 n) (w : World) :
    Calls Try.prog 22 #[.int .i64 n] w fun e w' => e = .returned (.int .i64 (bitsS n)) ∧ w' = w := by
  have hb := bitsS_le hn
  obtain ⟨h1, h2⟩ := hn
  go_enter Try.func22, Try.ntmps22
  go_wp2
  go_loop [0, 3] (fun m k => ∃ (x : Int) (j : Nat), m = .int .i64 x ∧ k = .int .i64 j ∧ x ≤ 9223372036854775807 ∧ j + bitsS x = bitsS n) (fun m _ => (intOf m).toNat)
  case atStart => exact ⟨n, 0, rfl, rfl, h2, by omega⟩
  case round =>
    obtain ⟨x, j, rfl, rfl, hx, hj⟩ := hrel
    have HJ : Hid (j + bitsS x = bitsS n) := hj
    have hj64 : j ≤ 64 := by omega
    clear hj hb
    by_cases p : 0 < x
    · go_wp2
      go_round
      case rel => exact ⟨x / 2, j + 1, rfl, by go_num, by omega, by have := HJ.out; rw [bitsS_half p hx] at this; omega⟩
      case measure => simp [intOf]; omega
    · go_wp2
      go_ret
      exact ⟨ret_int (by have := HJ.out; rw [bitsS_neg (n := x) (by omega)] at this; omega), rfl⟩

set_option maxHeartbeats 400000 in
theorem refAdd_any (a b : Int) (ha : I64 a) (hb : I64 b) (w : World) :
    Calls Try.prog 23 #[.int .i64 a, .int .i64 b] w fun e w' => e = .returned (.int .i64 (addS a b)) ∧ w' = w := by
  obtain ⟨ha1, ha2⟩ := ha; obtain ⟨hb1, hb2⟩ := hb
  by_cases p : 0 < a
  · by_cases q : 9223372036854775807 - a < b
    · go_enter Try.func23, Try.ntmps23
      go_wp2
      go_ret
      exact ⟨ret_int (addS_hi (by omega)).symm, rfl⟩
    · go_enter Try.func23, Try.ntmps23
      go_wp2
      go_ret
      exact ⟨ret_int (addS_mid ⟨by omega, by omega⟩).symm, rfl⟩
  · by_cases p' : a < 0
    · by_cases q : b < -9223372036854775808 - a
      · go_enter Try.func23, Try.ntmps23
        go_wp2
        go_ret
        exact ⟨ret_int (addS_lo (by omega)).symm, rfl⟩
      · go_enter Try.func23, Try.ntmps23
        go_wp2
        go_ret
        exact ⟨ret_int (addS_mid ⟨by omega, by omega⟩).symm, rfl⟩
    · go_enter Try.func23, Try.ntmps23
      go_wp2
      go_ret
      exact ⟨ret_int (addS_mid ⟨by omega, by omega⟩).symm, rfl⟩

/-- b added k times to a -/
def limS (a b : Int) : Nat → Int
  | 0 => a
  | k + 1 => addS (limS a b k) b

theorem limS_i64 {a b : Int} (ha : I64 a) : ∀ k, I64 (limS a b k)
  | 0 => ha
  | _ + 1 => addS_i64

set_option maxHeartbeats 400000 in
theorem limit_any (a b n : Int) (ha : I64 a) (hb : I64 b) (hn : I64 n) (w : World) :
    Calls Try.prog 24 #[.int .i64 a, .int .i64 b, .int .i64 n] w fun e w' => e = .returned (.int .i64 (limS a b (bitsS n))) ∧ w' = w := by
  have hb64 := bitsS_le hn
  have hc := fun w => bits_any n hn w
  generalize bitsS n = m at hb64 hc ⊢
  have HC : Hid (∀ w, Calls Try.prog 21 #[.int .i64 n] w fun e w' => e = .returned (.int .i64 (m : Int)) ∧ w' = w) := hc
  clear hc
  go_enter Try.func24, Try.ntmps24
  go_wp2_with (go_at_call 21; refine (HC.out _).mono ?_; rintro e w' ⟨rfl, rfl⟩)
  go_loop [7, 11] (fun s i => ∃ k : Nat, k ≤ m ∧ i = .int .i64 k ∧ s = .int .i64 (limS a b k)) (fun _ i => m - (intOf i).toNat)
  case atStart => exact ⟨0, Nat.zero_le _, rfl, rfl⟩
  case round =>
    obtain ⟨k, hk, rfl, rfl⟩ := hrel
    by_cases hlt : k < m
    · go_wp2_with (go_at_call 17; refine (add_any _ _ (limS_i64 ha k) hb _).mono ?_; rintro e w' ⟨rfl, rfl⟩)
      go_round
      case rel => exact ⟨k + 1, by omega, by go_num, rfl⟩
      case measure => simp [intOf]; omega
    · go_wp2
      go_ret
      exact ⟨ret_int (by rw [show k = m by omega]), rfl⟩

set_option maxHeartbeats 400000 in
theorem refLimit_any (a b n : Int) (ha : I64 a) (hb : I64 b) (hn : I64 n) (w : World) :
    Calls Try.prog 25 #[.int .i64 a, .int .i64 b, .int .i64 n] w fun e w' => e = .returned (.int .i64 (limS a b (bitsS n))) ∧ w' = w := by
  have hb64 := bitsS_le hn
  have hc := fun w => refBits_any n hn w
  generalize bitsS n = m at hb64 hc ⊢
  have HC : Hid (∀ w, Calls Try.prog 22 #[.int .i64 n] w fun e w' => e = .returned (.int .i64 (m : Int)) ∧ w' = w) := hc
  clear hc
  go_enter Try.func25, Try.ntmps25
  go_wp2_with (go_at_call 22; refine (HC.out _).mono ?_; rintro e w' ⟨rfl, rfl⟩)
  go_loop [7, 8] (fun s i => ∃ k : Nat, k ≤ m ∧ i = .int .i64 k ∧ s = .int .i64 (limS a b (m - k))) (fun _ i => (intOf i).toNat)
  case atStart => exact ⟨m, Nat.le_refl _, rfl, by rw [Nat.sub_self]; rfl⟩
  case round =>
    obtain ⟨k, hk, rfl, rfl⟩ := hrel
    by_cases hlt : 0 < k
    · go_wp2_with (go_at_call 23; refine (refAdd_any _ _ (limS_i64 ha (m - k)) hb _).mono ?_; rintro e w' ⟨rfl, rfl⟩)
      go_round
      case rel => exact ⟨k - 1, by omega, by go_num, by rw [show m - (k - 1) = (m - k) + 1 by omega]; rfl⟩
      case measure => simp [intOf]; omega
    · go_wp2
      go_ret
      exact ⟨ret_int (by rw [show m - k = m by omega]), rfl⟩

/-- is the entry (a1, a2) before (b1, b2)? -/
def bef (a1 a2 b1 b2 : Int) : Bool := decide (a1 < b1 ∨ a1 = b1 ∧ a2 < b2)

theorem ret_bool {a b : Bool} (h : a = b) : Ending.returned (.bool a) = .returned (.bool b) := by rw [h]

set_option maxHeartbeats 400000 in
theorem before_any (a1 a2 b1 b2 : Int) (w : World) :
    Calls Try.prog 14 #[.agg #[.int .i64 a1, .int .i64 a2], .agg #[.int .i64 b1, .int .i64 b2]] w fun e w' =>
      e = .returned (.bool (bef a1 a2 b1 b2)) ∧ ∃ c1 c2 : Array Value, w' = (w.alloc (.cells c1 26)).alloc (.cells c2 26) := by
  by_cases p : a1 = b1
  · subst p
    have hne : (a1 != a1) = false := by simp
    go_enter Try.func14, Try.ntmps14
    go_wp2
    go_ret
    exact ⟨ret_bool (by simp [bef]), _, _, rfl⟩
  · have hne : (a1 != b1) = true := by simp [p]
    go_enter Try.func14, Try.ntmps14
    go_wp2
    go_ret
    exact ⟨ret_bool (by simp [bef, p]), _, _, rfl⟩

set_option maxHeartbeats 400000 in
theorem refBefore_any (a1 a2 b1 b2 : Int) (w : World) :
    Calls Try.prog 18 #[.agg #[.int .i64 a1, .int .i64 a2], .agg #[.int .i64 b1, .int .i64 b2]] w fun e w' =>
      e = .returned (.bool (bef a1 a2 b1 b2)) ∧ ∃ c1 c2 : Array Value, w' = (w.alloc (.cells c1 26)).alloc (.cells c2 26) := by
  by_cases p : a1 < b1
  · go_enter Try.func18, Try.ntmps18
    go_wp2
    go_ret
    exact ⟨ret_bool (by simp [bef, p]), _, _, rfl⟩
  · by_cases q : a1 = b1
    · subst q
      by_cases r : a2 < b2
      · go_enter Try.func18, Try.ntmps18
        go_wp2
        go_ret
        exact ⟨ret_bool (by simp [bef, r]), _, _, rfl⟩
      · go_enter Try.func18, Try.ntmps18
        go_wp2
        go_ret
        exact ⟨ret_bool (by simp [bef, r]), _, _, rfl⟩
    · have hne : (a1 == b1) = false := by simp [q]
      go_enter Try.func18, Try.ntmps18
      go_wp2
      go_ret
      exact ⟨ret_bool (by simp [bef, p, q]), _, _, rfl⟩
end Go.Proofs.Ytjjahhiaelaocaa
