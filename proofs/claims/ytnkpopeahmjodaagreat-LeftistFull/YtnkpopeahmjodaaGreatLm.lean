/- The reference's Bits, Add, Limit. -/
import Derived.Test.YtnkpopeahmjodaaGreatAw
namespace Go.Proofs.YtnkpopeahmjodaaGreat
open Go.ChangeShapes Go.WideShapes Go.ChangeAt Go.RowKit

/-- how many binary digits n has -/
def bts (n : Nat) : Nat := if h : n = 0 then 0 else bts (n / 2) + 1
termination_by n
decreasing_by omega
theorem bts_zero : bts 0 = 0 := by unfold bts; rfl
theorem bts_half {n : Nat} (h : 0 < n) : bts n = bts (n / 2) + 1 := by rw [bts, dif_neg (by omega)]
theorem bts_lt : ∀ n : Nat, n < 2 ^ bts n := fun n => by
  induction n using Nat.strongRecOn with
  | ind n ih =>
    by_cases h : n = 0
    · subst h; simp [bts_zero]
    · have := ih (n / 2) (by omega)
      rw [bts_half (by omega), Nat.pow_succ]
      omega
theorem bts_le : ∀ (k n : Nat), n < 2 ^ k → bts n ≤ k
  | 0, n, h => by have : n = 0 := by simpa using h
                  subst this; rw [bts_zero]; exact Nat.le_refl _
  | k + 1, n, h => by
    by_cases h0 : n = 0
    · subst h0; rw [bts_zero]; omega
    · rw [bts_half (by omega)]
      have := bts_le k (n / 2) (by rw [Nat.pow_succ] at h; omega)
      omega

set_option maxHeartbeats 400000 in
theorem bitsR (n : Nat) (hn : n < 1048576) (w : World) :
    Calls Tryz.prog 65 #[.int .i64 (n : Int)] w fun e w' => e = .returned (.int .i64 (bts n : Nat)) ∧ w' = w := by
  have hb := bts_le 20 n hn
  go_enter Tryz.func65, Tryz.ntmps65
  go_wp2
  go_loop [0, 3] (fun m k => ∃ (x j : Nat), m = .int .i64 x ∧ k = .int .i64 j ∧ x < 1048576 ∧ j + bts x = bts n) (fun m _ => (intOf m).toNat)
  case atStart => exact ⟨n, 0, rfl, rfl, hn, by omega⟩
  case round =>
    obtain ⟨x, j, rfl, rfl, hx, hj⟩ := hrel
    have HJ := hid hj
    have hj20 : j ≤ 20 := by omega
    clear hj hb
    by_cases p : 0 < x
    · have p' : (0 : Int) < (x : Int) := by omega
      go_wp2
      go_round
      case rel => exact ⟨x / 2, j + 1, by go_num, by go_num, by omega, by have := HJ.out; rw [bts_half p] at this; omega⟩
      case measure => simp [intOf]; omega
    · obtain rfl : x = 0 := by omega
      go_wp2
      go_ret
      exact ⟨ret_int (by have := HJ.out; rw [bts_zero] at this; omega), rfl⟩

set_option maxHeartbeats 400000 in
theorem addR (a : Nat) (ha : a ≤ 1000000) (w : World) :
    Calls Tryz.prog 66 #[.int .i64 (a : Int), .int .i64 400] w fun e w' => e = .returned (.int .i64 ((a + 400 : Nat) : Int)) ∧ w' = w := by
  by_cases p : 0 < a
  · have p' : (0 : Int) < (a : Int) := by omega
    have q' : decide (9223372036854775807 - (a : Int) < 400) = false := by simp; omega
    go_enter Tryz.func66, Tryz.ntmps66
    go_wp2
    go_ret
    exact ⟨ret_int (by omega), rfl⟩
  · obtain rfl : a = 0 := by omega
    go_enter Tryz.func66, Tryz.ntmps66
    go_wp2
    go_ret
    exact ⟨ret_int (by omega), rfl⟩

set_option maxHeartbeats 400000 in
theorem limitR (n : Nat) (hn : n < 1048576) (w : World) :
    Calls Tryz.prog 48 #[.int .i64 500, .int .i64 400, .int .i64 (n : Int)] w fun e w' => e = .returned (.int .i64 ((500 + 400 * bts n : Nat) : Int)) ∧ w' = w := by
  have hb := bts_le 20 n hn
  have hc := hid (fun w => bitsR n hn w)
  generalize bts n = m at hb hc ⊢
  clear hn
  go_enter Tryz.func48, Tryz.ntmps48
  go_wp2_with fail
  refine (hc.out _).mono ?_
  rintro e w' ⟨rfl, rfl⟩
  clear hc
  go_wp2_with fail
  go_loop [7, 8] (fun s i => ∃ k : Nat, k ≤ m ∧ i = .int .i64 k ∧ s = .int .i64 ((500 + 400 * (m - k) : Nat) : Int)) (fun _ i => (intOf i).toNat)
  case atStart => exact ⟨m, Nat.le_refl _, rfl, by rw [Nat.sub_self]; rfl⟩
  case round =>
    obtain ⟨k, hk, rfl, rfl⟩ := hrel
    by_cases hlt : 0 < k
    · obtain ⟨z, hz⟩ : ∃ z, z = 500 + 400 * (m - k) := ⟨_, rfl⟩
      rw [← hz]
      have A := hid (fun w => addR z (by omega) w)
      have HZ := hid hz
      have hlt' : (0 : Int) < (k : Int) := by omega
      clear hz
      go_wp2_with fail
      refine (A.out _).mono ?_
      rintro e w' ⟨rfl, rfl⟩
      go_wp2
      go_round
      case rel => exact ⟨k - 1, by omega, by go_num, by rw [HZ.out]; congr 2; omega⟩
      case measure => simp [intOf]; omega
    · obtain rfl : k = 0 := by omega
      go_wp2
      go_ret
      exact ⟨ret_int (by simp), rfl⟩
end Go.Proofs.YtnkpopeahmjodaaGreat
