/- The walks of count, of what the reference counts in place, of Within. -/
import Derived.Test.YtmfnbgljioecpaaSk
namespace Go.Proofs.Ytmfnbgljioecpaa
open Go.ChangeShapes Go.WideShapes Go.ChangeAt Go.RowKit

theorem cn_wrap : ∀ k, k ≤ 28 → wrap64 (wrap64 (2 ^ (k + 1)) - 1) = cn k := by
  have h : ∀ k, k < 29 → wrap64 (wrap64 (2 ^ (k + 1)) - 1) = cn k := by unfold wrap64; decide +kernel
  exact fun k hk => h k (by omega)
theorem ret_int {a b : Int} (h : a = b) : Ending.returned (.int .i64 a) = Ending.returned (.int .i64 b) := by rw [h]

theorem count_any (k : Nat) (hk : k ≤ 28) (w : World) : Calls Try.prog 20 #[.int .i64 (k : Int)] w fun e w' => e = .returned (.int .i64 (cn k)) ∧ w' = w := by
  go_enter Try.func20, Try.ntmps20
  go_wp2
  go_ret
  exact ⟨ret_int (cn_wrap k hk), rfl⟩

def I64 (x : Int) : Prop := -9223372036854775808 ≤ x ∧ x ≤ 9223372036854775807
theorem i64_of_wf {x : Int} (h : (Lit.int .i64 x).wf = true) : I64 x := by
  simp [Lit.wf, IntKind.min, IntKind.max, IntKind.signed, IntKind.bits] at h
  exact ⟨by omega, by omega⟩

theorem tmod_bounds (n : Int) {k : Int} (hk : 0 < k) : -k < n.tmod k ∧ n.tmod k < k := by
  constructor
  · have h2 := Int.lt_tmod_of_pos n hk; omega
  · exact Int.tmod_lt_of_pos n hk

set_option maxHeartbeats 1000000 in
theorem within_any (n : Int) (hn : I64 n) (lo hi : Nat) (hlh : lo ≤ hi) (hh : hi ≤ 1048576) (w : World) :
    Calls Try.prog 15 #[.int .i64 n, .int .i64 lo, .int .i64 hi] w fun e w' => ∃ r : Nat, e = .returned (.int .i64 r) ∧ lo ≤ r ∧ r ≤ hi ∧ w' = w := by
  obtain ⟨h1, h2⟩ := hn
  by_cases c1 : (lo : Int) ≤ n
  · by_cases c2 : n ≤ (hi : Int)
    · go_enter Try.func15, Try.ntmps15
      go_wp2
      go_ret
      exact ⟨n.toNat, ret_int (by omega), by omega, by omega, rfl⟩
    · obtain ⟨d, hd⟩ : ∃ d : Nat, (hi : Int) - (lo : Int) = d := ⟨hi - lo, by omega⟩
      have hwd : IntKind.i64.wrap ((d : Int) + 1) = (d : Int) + 1 := IntWalk.i64_in _ (by omega)
      have hne : ¬ ((d : Int) + 1 = 0) := by omega
      obtain ⟨t1, t2⟩ := tmod_bounds n (k := (d : Int) + 1) (by omega)
      have hnn : 0 ≤ n.tmod ((d : Int) + 1) := Int.tmod_nonneg _ (by omega)
      have HD := hid hd
      have c2' : decide (n ≤ (hi : Int)) = false := by simp; omega
      obtain ⟨t, ht⟩ : ∃ t : Int, n.tmod ((d : Int) + 1) = t := ⟨_, rfl⟩
      rw [ht] at t1 t2 hnn
      go_enter Try.func15, Try.ntmps15
      go_wp2
      go_ret
      exact ⟨lo + t.toNat, ret_int (by omega), by omega, by omega, rfl⟩
  · obtain ⟨d, hd⟩ : ∃ d : Nat, (hi : Int) - (lo : Int) = d := ⟨hi - lo, by omega⟩
    have hwd : IntKind.i64.wrap ((d : Int) + 1) = (d : Int) + 1 := IntWalk.i64_in _ (by omega)
    have hne : ¬ ((d : Int) + 1 = 0) := by omega
    obtain ⟨t1, t2⟩ := tmod_bounds n (k := (d : Int) + 1) (by omega)
    have c1' : decide ((lo : Int) ≤ n) = false := by simp; omega
    obtain ⟨t, ht⟩ : ∃ t : Int, n.tmod ((d : Int) + 1) = t := ⟨_, rfl⟩
    rw [ht] at t1 t2
    by_cases c3 : t < 0
    · go_enter Try.func15, Try.ntmps15
      go_wp2
      go_ret
      exact ⟨(lo + (t + hi - lo + 1)).toNat, ret_int (by omega), by omega, by omega, rfl⟩
    · have c3' : decide (t < 0) = false := by simp; omega
      go_enter Try.func15, Try.ntmps15
      go_wp2
      go_ret
      exact ⟨(lo + t).toNat, ret_int (by omega), by omega, by omega, rfl⟩


theorem within0 (n : Int) (hn : I64 n) (hi : Nat) (hh : hi ≤ 1048576) (w : World) :
    Calls Try.prog 15 #[.int .i64 n, .int .i64 0, .int .i64 hi] w fun e w' => ∃ r : Nat, e = .returned (.int .i64 r) ∧ r ≤ hi ∧ w' = w :=
  (within_any n hn 0 hi (Nat.zero_le _) hh w).mono fun _ _ ⟨r, a, _, b, c⟩ => ⟨r, a, b, c⟩
theorem within1 (n : Int) (hn : I64 n) (hi : Nat) (h1 : 1 ≤ hi) (hh : hi ≤ 1048576) (w : World) :
    Calls Try.prog 15 #[.int .i64 n, .int .i64 1, .int .i64 hi] w fun e w' => ∃ r : Nat, e = .returned (.int .i64 r) ∧ 1 ≤ r ∧ r ≤ hi ∧ w' = w :=
  (within_any n hn 1 hi h1 hh w)
end Go.Proofs.Ytmfnbgljioecpaa
