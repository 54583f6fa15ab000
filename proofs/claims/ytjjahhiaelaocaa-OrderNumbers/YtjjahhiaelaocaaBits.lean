/- The walks of bits.Len64 and bits.Len: each answers how many binary digits a number has. -/
import Derived.Test.YtjjahhiaelaocaaProg
import Derived.Lib.Strings
import Derived.Lib.Slices
import Derived.Lib.Small
import Derived.Lib.Walk
import Derived.Lib.BitFns
namespace Go.Proofs.Ytjjahhiaelaocaa

/-- what the last look into the table adds to the digits that were shifted away -/
theorem len_end (x k m : Nat) (z : Int) (hm : m = 2 ^ k) (hz : z = (x / m : Nat)) (hk : m ≤ x) (h8 : x / m < 256) (hx : x < 18446744073709551616) :
    ((k : Int) + ((Lib.len8 z + 9223372036854775808) % 18446744073709551616 - 9223372036854775808) + 9223372036854775808) % 18446744073709551616 - 9223372036854775808 = Lib.bitLen x := by
  have hkk : k < 64 := by
    have h1 : 2 ^ k < 2 ^ 64 := by omega
    exact (Nat.pow_lt_pow_iff_right (by decide)).1 h1
  subst hz
  rw [Lib.len8_of _ (Int.natCast_nonneg _) (by omega), Int.toNat_natCast]
  have l := Lib.bitLen_le8 ⟨x / m, h8⟩
  simp only at l
  have e := Lib.bitLen_shift k x (by omega) hx
  rw [← hm] at e
  omega

theorem len_last (x : Int) (h0 : 0 ≤ x) (h8 : x < 256) :
    (Lib.len8 (x % 256) + 9223372036854775808) % 18446744073709551616 - 9223372036854775808 = (Lib.bitLen x.toNat : Int) := by
  rw [Int.emod_eq_of_lt h0 h8]
  exact Lib.len8_int x h0 (by omega)

set_option maxHeartbeats 4000000 in
set_option maxRecDepth 100000 in
theorem len64_any (x : Int) (w : World) (h0 : 0 ≤ x) (h1 : x ≤ 18446744073709551615) :
    Calls Try.prog 35 #[.int .u64 x] w fun e w' => e = .returned (.int .i64 (Lib.bitLen x.toNat)) ∧ w' = w := by
  go_enter Try.func35, Try.ntmps35
  go_wp2
  all_goals (go_ret; refine ⟨congrArg Ending.returned (congrArg (Value.int IntKind.i64) ?_), rfl⟩)
  · exact len_end x.toNat 56 72057594037927936 _ (by decide) (by omega) (by omega) (by omega) (by omega)
  · exact len_end x.toNat 48 281474976710656 _ (by decide) (by omega) (by omega) (by omega) (by omega)
  · exact len_end x.toNat 40 1099511627776 _ (by decide) (by omega) (by omega) (by omega) (by omega)
  · exact len_end x.toNat 32 4294967296 _ (by decide) (by omega) (by omega) (by omega) (by omega)
  · exact len_end x.toNat 24 16777216 _ (by decide) (by omega) (by omega) (by omega) (by omega)
  · exact len_end x.toNat 16 65536 _ (by decide) (by omega) (by omega) (by omega) (by omega)
  · exact len_end x.toNat 8 256 _ (by decide) (by omega) (by omega) (by omega) (by omega)
  · exact len_last x h0 (by omega)

theorem len_any (x : Int) (w : World) (h0 : 0 ≤ x) (h1 : x ≤ 18446744073709551615) :
    Calls Try.prog 32 #[.int .u64 x] w fun e w' => e = .returned (.int .i64 (Lib.bitLen x.toNat)) ∧ w' = w := by
  go_enter Try.func32, Try.ntmps32
  go_wp2_with (go_at_call 35; refine (len64_any x _ h0 h1).mono ?_; rintro e w' ⟨rfl, rfl⟩)
  go_ret
  exact ⟨rfl, rfl⟩
end Go.Proofs.Ytjjahhiaelaocaa
