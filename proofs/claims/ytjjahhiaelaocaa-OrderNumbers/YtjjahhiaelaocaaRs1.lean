/- Plain facts on putting an entry into a list that is in order. -/
import Derived.Test.YtjjahhiaelaocaaApp
namespace Go.Proofs.Ytjjahhiaelaocaa
open Go.RowKit

theorem ent_append_left {l m : List (Int × Int)} {q : Nat} (h : q < l.length) : ent (l ++ m) q = ent l q := by simp [ent, List.getElem?_append_left h]
theorem ent_append_right {l m : List (Int × Int)} {q : Nat} (h : l.length ≤ q) : ent (l ++ m) q = ent m (q - l.length) := by simp [ent, List.getElem?_append_right h]
theorem ent_take {l : List (Int × Int)} {k q : Nat} (h : q < k) : ent (l.take k) q = ent l q := by simp [ent, h]
theorem ent_drop (l : List (Int × Int)) (k q : Nat) : ent (l.drop k) q = ent l (k + q) := by simp [ent, List.getElem?_drop]

/-- x put into m at place k -/
def put1 (m : List (Int × Int)) (x : Int × Int) (k : Nat) : List (Int × Int) := m.take k ++ [x] ++ m.drop k

theorem put1_lo {m : List (Int × Int)} {x : Int × Int} {k q : Nat} (hk : k ≤ m.length) (h : q < k) : ent (put1 m x k) q = ent m q := by
  unfold put1
  rw [List.append_assoc, ent_append_left (by simp; omega), ent_take h]
theorem put1_at {m : List (Int × Int)} {x : Int × Int} {k : Nat} (hk : k ≤ m.length) : ent (put1 m x k) k = x := by
  unfold put1
  rw [List.append_assoc, ent_append_right (by simp; omega)]
  simp [ent, Nat.min_eq_left hk]
theorem put1_hi {m : List (Int × Int)} {x : Int × Int} {k q : Nat} (hk : k ≤ m.length) (h : k < q) : ent (put1 m x k) q = ent m (q - 1) := by
  unfold put1
  rw [ent_append_right (by simp; omega), ent_drop]
  congr 1
  simp; omega
theorem put1_length {m : List (Int × Int)} {x : Int × Int} {k : Nat} (hk : k ≤ m.length) : (put1 m x k).length = m.length + 1 := by simp [put1]; omega
theorem put1_perm (m : List (Int × Int)) (x : Int × Int) (k : Nat) : (put1 m x k).Perm (m ++ [x]) := by
  unfold put1
  have h1 : (m.take k ++ [x] ++ m.drop k).Perm (m.take k ++ m.drop k ++ [x]) := by
    rw [List.append_assoc, List.append_assoc]
    exact List.Perm.append_left _ List.perm_append_comm
  rwa [List.take_append_drop] at h1

theorem put1_sorted {m : List (Int × Int)} {x : Int × Int} {k : Nat} (hk : k ≤ m.length) (hs : SortedOn m 0 m.length) (h1 : ∀ j, k ≤ j → j < m.length → befE x (ent m j) = true) (h2 : k = 0 ∨ befE x (ent m (k - 1)) = false) : SortedOn (put1 m x k) 0 (m.length + 1) := by
  intro p q _ hpq hq
  by_cases c1 : q < k
  · rw [put1_lo hk c1, put1_lo hk (by omega)]; exact hs p q (Nat.zero_le _) hpq (by omega)
  · by_cases c2 : q = k
    · subst c2
      rw [put1_at hk, put1_lo hk hpq]
      rcases h2 with h2 | h2
      · omega
      · by_cases c3 : p = q - 1
        · rw [c3]; exact h2
        · exact befE_le_trans (hs p (q - 1) (Nat.zero_le _) (by omega) (by omega)) h2
    · rw [put1_hi hk (by omega)]
      by_cases c3 : p < k
      · rw [put1_lo hk c3]; exact hs p (q - 1) (Nat.zero_le _) (by omega) (by omega)
      · by_cases c4 : p = k
        · subst c4; rw [put1_at hk]; exact befE_asymm (h1 (q - 1) (by omega) (by omega))
        · rw [put1_hi hk (by omega)]; exact hs (p - 1) (q - 1) (Nat.zero_le _) (by omega) (by omega)

theorem put1_step {l m : List (Int × Int)} {i : Nat} {x : Int × Int} (k : Nat) (hp : m.Perm (l.take i)) (hi : i < l.length) (hx : ent l i = x) : (put1 m x k).Perm (l.take (i + 1)) := by
  refine (put1_perm m x k).trans ?_
  rw [List.take_succ_eq_append_getElem hi, ← hx, ent_of_lt hi]
  exact hp.append_right _

theorem Row.take {w : World} {b off : Nat} {l : List (Int × Int)} (h : Row w b off l) (k : Nat) : Row w b off (l.take k) := fun i hi => by
  rw [List.length_take] at hi
  rw [ent_take (by omega)]
  exact h i (by omega)
theorem Row.drop {w : World} {b off : Nat} {l : List (Int × Int)} (h : Row w b off l) (k : Nat) : Row w b (off + k * 2) (l.drop k) := fun i hi => by
  rw [List.length_drop] at hi
  rw [ent_drop]
  have := h (k + i) (by omega)
  rw [show off + (k + i) * 2 = off + k * 2 + i * 2 by omega] at this
  exact this
end Go.Proofs.Ytjjahhiaelaocaa
