/- The walk of the library's exchange of two stretches of a row of entries that the caller owns. -/
import Derived.Test.YtjjahhiaelaocaaIns
namespace Go.Proofs.Ytjjahhiaelaocaa
open Go.ChangeShapes Go.WideShapes Go.ChangeAt Go.RowKit

/-- m is l with the n entries from a on and the n from b on exchanged -/
def Swapped (l m : List (Int × Int)) (a b n : Nat) : Prop :=
  (∀ t, t < n → ent m (a + t) = ent l (b + t) ∧ ent m (b + t) = ent l (a + t)) ∧ (∀ q, (q < a ∨ a + n ≤ q) → (q < b ∨ b + n ≤ q) → ent m q = ent l q)

theorem Swapped.step {l m : List (Int × Int)} {a b n : Nat} (h : Swapped l m a b n) (hab : a + n < b) (hb : b + n < m.length) : Swapped l (swp m (a + n) (b + n)) a b (n + 1) := by
  refine ⟨fun t ht => ?_, fun q h1 h2 => ?_⟩
  · by_cases e : t = n
    · subst e
      rw [swp_left (by omega) hb, swp_right hb]
      exact ⟨h.2 _ (by omega) (by omega), h.2 _ (by omega) (by omega)⟩
    · rw [swp_other (by omega) (by omega), swp_other (by omega) (by omega)]
      exact h.1 t (by omega)
  · rw [swp_other (by omega) (by omega)]
    exact h.2 q (by omega) (by omega)

set_option maxHeartbeats 1000000 in
theorem swap_any (g off cap a b n lo hi : Nat) (l : List (Int × Int)) (w : World) (hab : a + n ≤ b) (hlo : lo ≤ a) (hhi : b + n ≤ hi) (hbl : hi ≤ l.length) (hl : l.length ≤ 1000000) (ho : Own w g off l) :
    Calls Try.prog 39 #[.slice (some ⟨g, off, none⟩) l.length cap, .int .i64 a, .int .i64 b, .int .i64 n, .func (.func 19) #[] #[]] w fun e w' =>
      e = .returned (.tuple #[]) ∧ ∃ l', Within lo hi l l' ∧ Swapped l l' a b n ∧ Own w' g off l' ∧ Below g w w' := by
  go_enter Try.func39, Try.ntmps39
  go_wp2
  go_loopw [10] (fun i wr => ∃ (k : Nat) (m : List (Int × Int)), i = .int .i64 k ∧ k ≤ n ∧ Within lo hi l m ∧ Swapped l m a b k ∧ Own wr g off m ∧ Below g w wr) (fun i _ => n - (intOf i).toNat)
  case atStart => exact ⟨0, l, rfl, Nat.zero_le _, Within.refl _ _ _, ⟨fun t ht => by omega, fun _ _ _ => rfl⟩, ho, Below.refl _ _⟩
  case round =>
    obtain ⟨k, m, rfl, hk, hw, hs, hown, hbel⟩ := hrel
    by_cases hlt : k < n
    · have hlen := hw.len
      obtain ⟨i, hi'⟩ : ∃ i, i = a + k := ⟨_, rfl⟩
      obtain ⟨j, hj'⟩ : ∃ j, j = b + k := ⟨_, rfl⟩
      have hai : (a : Int) + (k : Int) = (i : Int) := by omega
      have hbj : (b : Int) + (k : Int) = (j : Int) := by omega
      have hil : i < l.length := by omega
      have hjl : j < l.length := by omega
      have hwi : IntKind.i64.wrap (i : Int) = i := IntWalk.i64_in _ (by omega)
      have hwj : IntKind.i64.wrap (j : Int) = j := IntWalk.i64_in _ (by omega)
      have HI : Hid (i = a + k) := hi'
      have HJ : Hid (j = b + k) := hj'
      have HLEN : Hid (m.length = l.length) := hlen
      obtain ⟨h1, h2⟩ := hown.row i (by omega)
      obtain ⟨h3, h4⟩ := hown.row j (by omega)
      have fz := hown.fz
      have hg := hown.lt
      clear hlen hi' hj'
      generalize hx : ent m i = x at h1 h2
      generalize hy : ent m j = y at h3 h4
      have HX : Hid (ent m i = x) := hx
      have HY : Hid (ent m j = y) := hy
      clear hx hy
      have OW : Hid (Own wr g off m) := hown
      have BL : Hid (Below g w wr) := hbel
      clear ho hown hbel
      go_wp2
      go_region
      go_wp2
      go_roundw
      case rel =>
        have hlen := HLEN.out
        have e1 := HI.out
        have e2 := HJ.out
        have st := hs.step (by omega) (by omega)
        rw [← e1, ← e2] at st
        exact ⟨k + 1, swp m i j, by go_num, by omega, hw.trans (Within.swp (by omega) (by omega) (by omega) (by omega) (by omega)), st, OW.out.swp (by omega) (by omega) HX.out HY.out, below_swp BL.out (Nat.le_refl _) _ _ _ _ _ _ _ _⟩
      case measure => simp [intOf]; omega
    · obtain rfl : k = n := by omega
      go_wp2
      go_end0
      exact ⟨rfl, m, hw, hs, hown, hbel⟩
end Go.Proofs.Ytjjahhiaelaocaa
