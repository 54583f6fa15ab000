/- The walk of the library's rotation of a stretch of a row of entries that the caller owns. -/
import Derived.Test.YtjjahhiaelaocaaSwp
namespace Go.Proofs.Ytjjahhiaelaocaa
open Go.ChangeShapes Go.WideShapes Go.ChangeAt Go.RowKit

theorem hid {p : Prop} (h : p) : Hid p := h

/-- from where the entry at place q comes when the i entries ahead of place m and the j behind it change places -/
def from' (m i j q : Nat) : Nat := if m - i ≤ q ∧ q < m - i + j then q + i else if m - i + j ≤ q ∧ q < m + j then q - j else q

theorem Swapped.at {l m : List (Int × Int)} {a b n : Nat} (h : Swapped l m a b n) (q : Nat) : ent m q = ent l (if a ≤ q ∧ q < a + n then q - a + b else if b ≤ q ∧ q < b + n then q - b + a else q) := by
  split
  · rename_i c
    have := (h.1 (q - a) (by omega)).1
    rw [show a + (q - a) = q by omega] at this
    rw [this]; congr 1; omega
  · split
    · rename_i c
      have := (h.1 (q - b) (by omega)).2
      rw [show b + (q - b) = q by omega] at this
      rw [this]; congr 1; omega
    · exact h.2 q (by omega) (by omega)

theorem from_big {l c : List (Int × Int)} {m i j : Nat} (hij : j < i) (hi : i ≤ m) (h : Swapped l c (m - i) m j) (q : Nat) : ent c (from' m (i - j) j q) = ent l (from' m i j q) := by
  rw [h.at]
  congr 1
  unfold from'
  repeat' split
  all_goals omega

theorem from_small {l c : List (Int × Int)} {m i j : Nat} (hij : i < j) (hi : i ≤ m) (h : Swapped l c (m - i) (m + j - i) i) (q : Nat) : ent c (from' m i (j - i) q) = ent l (from' m i j q) := by
  rw [h.at]
  congr 1
  unfold from'
  repeat' split
  all_goals omega

theorem from_same {l c : List (Int × Int)} {m i : Nat} (hi : i ≤ m) (h : Swapped l c (m - i) m i) (q : Nat) : ent c q = ent l (from' m i i q) := by
  rw [h.at]
  congr 1
  unfold from'
  repeat' split
  all_goals omega

set_option maxHeartbeats 1000000 in
theorem rotate_any (g off cap a m b : Nat) (l : List (Int × Int)) (w : World) (ham : a < m) (hmb : m < b) (hbl : b ≤ l.length) (hl : l.length ≤ 1000000) (ho : Own w g off l) :
    Calls Try.prog 38 #[.slice (some ⟨g, off, none⟩) l.length cap, .int .i64 a, .int .i64 m, .int .i64 b, .func (.func 19) #[] #[]] w fun e w' =>
      e = .returned (.tuple #[]) ∧ ∃ l', Within a b l l' ∧ (∀ q, ent l' q = ent l (from' m (m - a) (b - m) q)) ∧ Own w' g off l' ∧ Below g w w' := by
  go_enter Try.func38, Try.ntmps38
  go_wp2
  go_loopw [10, 11] (fun iv jv wr => ∃ (i j : Nat) (c : List (Int × Int)), iv = .int .i64 i ∧ jv = .int .i64 j ∧ 0 < i ∧ 0 < j ∧ a + i ≤ m ∧ m + j ≤ b ∧ Within a b l c ∧ (∀ q, ent c (from' m i j q) = ent l (from' m (m - a) (b - m) q)) ∧ Own wr g off c ∧ Below g w wr) (fun i j _ => (intOf i).toNat + (intOf j).toNat)
  case atStart => exact ⟨m - a, b - m, l, by go_num, by go_num, by omega, by omega, by omega, by omega, Within.refl _ _ _, fun _ => rfl, ho, Below.refl _ _⟩
  case round =>
    clear ho
    obtain ⟨i, j, c, rfl, rfl, hi, hj, hai, hjb, hw, hq, hown, hbel⟩ := hrel
    have hlen := hw.len
    have BL : Hid (Below g w wr) := hbel
    obtain ⟨p, hp⟩ : ∃ p, p = m - i := ⟨_, rfl⟩
    have hmi : (m : Int) - (i : Int) = (p : Int) := by omega
    by_cases hlt : j < i
    · have hc := swap_any g off cap p m j a b c wr (by omega) (by omega) (by omega) (by omega) (by omega) hown
      rw [hlen] at hc
      have HC := hid hc
      have hne : ((i : Int) != (j : Int)) = true := by rw [bne_iff_ne]; omega
      have HP : Hid (p = m - i) := hp
      clear hc hown hbel hp hlen
      go_wp2_with fail
      refine HC.out.mono ?_
      rintro e w' ⟨rfl, l', hw', hs', hown', hbel'⟩
      go_wp2
      go_roundw
      case rel =>
        have e := HP.out
        subst e
        exact ⟨i - j, j, l', by go_num, rfl, by omega, by omega, by omega, by omega, hw.trans hw', fun q => (from_big hlt (by omega) hs' q).trans (hq q), hown', BL.out.trans hbel'⟩
      case measure => simp [intOf]; omega
    · by_cases heq : i = j
      · subst heq
        have hc := swap_any g off cap p m i a b c wr (by omega) (by omega) (by omega) (by omega) (by omega) hown
        rw [hlen] at hc
        have HC := hid hc
        have hne : ((i : Int) != (i : Int)) = false := by simp
        have HP : Hid (p = m - i) := hp
        clear hc hown hbel hp hlen
        go_wp2_with fail
        refine HC.out.mono ?_
        rintro e w' ⟨rfl, l', hw', hs', hown', hbel'⟩
        go_wp2
        go_end0
        have e := HP.out
        subst e
        exact ⟨rfl, l', hw.trans hw', fun q => (from_same (by omega) hs' q).trans (hq q), hown', BL.out.trans hbel'⟩
      · obtain ⟨r, hr⟩ : ∃ r, r = m + j - i := ⟨_, rfl⟩
        have hmj : (m : Int) + (j : Int) - (i : Int) = (r : Int) := by omega
        have hc := swap_any g off cap p r i a b c wr (by omega) (by omega) (by omega) (by omega) (by omega) hown
        rw [hlen] at hc
        have HC := hid hc
        have hne : ((i : Int) != (j : Int)) = true := by rw [bne_iff_ne]; omega
        have HP : Hid (p = m - i) := hp
        have HR : Hid (r = m + j - i) := hr
        clear hc hown hbel hp hlen hr
        go_wp2_with fail
        refine HC.out.mono ?_
        rintro e w' ⟨rfl, l', hw', hs', hown', hbel'⟩
        go_wp2
        go_roundw
        case rel =>
          have e := HP.out
          have e' := HR.out
          subst e; subst e'
          exact ⟨i, j - i, l', rfl, by go_num, by omega, by omega, by omega, by omega, hw.trans hw', fun q => (from_small (by omega) (by omega) hs' q).trans (hq q), hown', BL.out.trans hbel'⟩
        case measure => simp [intOf]; omega
end Go.Proofs.Ytjjahhiaelaocaa
