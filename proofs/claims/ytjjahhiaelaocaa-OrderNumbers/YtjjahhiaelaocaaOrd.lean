/- Plain facts on entries and lists of entries: the order is strict and total; exchanges keep all entries; a list that has all entries in order is the only one. -/
import Derived.Test.YtjjahhiaelaocaaCmp
namespace Go.Proofs.Ytjjahhiaelaocaa
open Go.RowKit

theorem befE_iff (x y : Int × Int) : befE x y = true ↔ x.1 < y.1 ∨ x.1 = y.1 ∧ x.2 < y.2 := by simp [befE, bef]
theorem befE_irrefl (x : Int × Int) : befE x x = false := by
  rw [Bool.eq_false_iff]; intro h; rw [befE_iff] at h; omega
theorem befE_trans {x y z : Int × Int} (h : befE x y = true) (k : befE y z = true) : befE x z = true := by
  rw [befE_iff] at *; omega
theorem befE_asymm {x y : Int × Int} (h : befE x y = true) : befE y x = false := by
  rw [Bool.eq_false_iff]; intro k; rw [befE_iff] at *; omega
theorem befE_total {x y : Int × Int} (h : befE x y = false) (k : befE y x = false) : x = y := by
  have h' : ¬ (befE x y = true) := by rw [h]; decide
  have k' : ¬ (befE y x = true) := by rw [k]; decide
  rw [befE_iff] at h' k'
  obtain ⟨x1, x2⟩ := x; obtain ⟨y1, y2⟩ := y
  simp only [Prod.mk.injEq]
  simp only at h' k'
  omega
/-- not after, twice -/
theorem befE_le_trans {x y z : Int × Int} (h : befE y x = false) (k : befE z y = false) : befE z x = false := by
  have h' : ¬ (befE y x = true) := by rw [h]; decide
  have k' : ¬ (befE z y = true) := by rw [k]; decide
  rw [Bool.eq_false_iff]; intro q
  rw [befE_iff] at *; omega

theorem cmpS_neg (x y : Int × Int) : (cmpS x.1 x.2 y.1 y.2 < 0) ↔ befE x y = true := by
  unfold cmpS befE
  split
  · simp [*]
  · split <;> simp [*]

theorem ent_of_lt {l : List (Int × Int)} {i : Nat} (h : i < l.length) : ent l i = l[i] := by simp [ent, h]
theorem ent_set_same {l : List (Int × Int)} {i : Nat} (h : i < l.length) (x : Int × Int) : ent (l.set i x) i = x := by simp [ent, h]
theorem ent_set_other {l : List (Int × Int)} {i j : Nat} (h : i ≠ j) (x : Int × Int) : ent (l.set i x) j = ent l j := by simp [ent, List.getElem?_set_ne h]

/-- the list with the entries at i and j exchanged -/
def swp (l : List (Int × Int)) (i j : Nat) : List (Int × Int) := (l.set i (ent l j)).set j (ent l i)
theorem swp_length (l : List (Int × Int)) (i j : Nat) : (swp l i j).length = l.length := by simp [swp]
theorem swp_left {l : List (Int × Int)} {i j : Nat} (hi : i < l.length) (hj : j < l.length) : ent (swp l i j) i = ent l j := by
  unfold swp
  by_cases h : j = i
  · subst h; rw [ent_set_same (by simpa using hj)]
  · rw [ent_set_other h, ent_set_same hi]
theorem swp_right {l : List (Int × Int)} {i j : Nat} (hj : j < l.length) : ent (swp l i j) j = ent l i := by
  unfold swp
  rw [ent_set_same (by simpa using hj)]
theorem swp_other {l : List (Int × Int)} {i j k : Nat} (h1 : i ≠ k) (h2 : j ≠ k) : ent (swp l i j) k = ent l k := by
  unfold swp
  rw [ent_set_other h2, ent_set_other h1]
theorem swp_perm {l : List (Int × Int)} {i j : Nat} (hi : i < l.length) (hj : j < l.length) : (swp l i j).Perm l := by
  rw [List.perm_iff_count]
  intro x
  unfold swp
  rw [List.count_set (by simpa using hj), List.count_set hi, ent_of_lt hi, ent_of_lt hj]
  have pi : 0 < l.count l[i] := List.count_pos_iff.2 (List.getElem_mem hi)
  have pj : 0 < l.count l[j] := List.count_pos_iff.2 (List.getElem_mem hj)
  by_cases h : i = j
  · subst h
    simp only [List.getElem_set_self]
    by_cases e : l[i] = x
    · subst e; simp
    · simp [e]
  · rw [List.getElem_set_ne h]
    by_cases e : l[i] = x <;> by_cases f : l[j] = x
    · subst e; simp [f]
    · subst e; simp [f]
    · subst f; simp [e]
    · simp [e, f]

/-- from place a up to place b no entry is before one that stands ahead of it -/
def SortedOn (l : List (Int × Int)) (a b : Nat) : Prop := ∀ i j, a ≤ i → i < j → j < b → befE (ent l j) (ent l i) = false

theorem sortedOn_short {l : List (Int × Int)} {a b : Nat} (h : b ≤ a + 1) : SortedOn l a b := fun i j _ _ _ => by omega

/-- neighbours are enough -/
theorem sortedOn_near {l : List (Int × Int)} {a b : Nat} (h : ∀ i, a ≤ i → i + 1 < b → befE (ent l (i + 1)) (ent l i) = false) : SortedOn l a b := by
  intro i j hi hij hj
  obtain ⟨d, rfl⟩ : ∃ d, j = i + 1 + d := ⟨j - i - 1, by omega⟩
  clear hij
  induction d with
  | zero => exact h i hi (by omega)
  | succ d ih => exact befE_le_trans (ih (by omega)) (h (i + 1 + d) (by omega) (by omega))

/-- two lists of the same entries that are both in order are one -/
theorem sorted_unique {l m : List (Int × Int)} (hp : l.Perm m) (hl : SortedOn l 0 l.length) (hm : SortedOn m 0 m.length) : l = m := by
  have pw : ∀ {k : List (Int × Int)}, SortedOn k 0 k.length → k.Pairwise (fun x y => befE y x = false) := fun {k} hk => by
    rw [List.pairwise_iff_getElem]
    intro i j hi hj hij
    have := hk i j (Nat.zero_le _) hij hj
    rwa [ent_of_lt hi, ent_of_lt hj] at this
  exact hp.eq_of_pairwise (fun x y _ _ h1 h2 => befE_total h2 h1) (pw hl) (pw hm)

/-- same entries, same places outside a .. b, within it each from within -/
structure Within (a b : Nat) (l l' : List (Int × Int)) : Prop where
  len : l'.length = l.length
  perm : l'.Perm l
  out : ∀ i, i < a ∨ b ≤ i → ent l' i = ent l i
  src : ∀ q, a ≤ q → q < b → ∃ p, a ≤ p ∧ p < b ∧ ent l' q = ent l p

theorem Within.refl (a b : Nat) (l : List (Int × Int)) : Within a b l l := ⟨rfl, List.Perm.refl _, fun _ _ => rfl, fun q h1 h2 => ⟨q, h1, h2, rfl⟩⟩
theorem Within.trans {a b : Nat} {l m n : List (Int × Int)} (h : Within a b l m) (k : Within a b m n) : Within a b l n :=
  ⟨k.len.trans h.len, k.perm.trans h.perm, fun i hi => (k.out i hi).trans (h.out i hi), fun q h1 h2 => by
    obtain ⟨p, p1, p2, e⟩ := k.src q h1 h2
    obtain ⟨r, r1, r2, f⟩ := h.src p p1 p2
    exact ⟨r, r1, r2, e.trans f⟩⟩
theorem Within.mono {a b a' b' : Nat} {l m : List (Int × Int)} (h : Within a b l m) (ha : a' ≤ a) (hb : b ≤ b') : Within a' b' l m :=
  ⟨h.len, h.perm, fun i hi => h.out i (by omega), fun q h1 h2 => by
    by_cases e : a ≤ q ∧ q < b
    · obtain ⟨p, p1, p2, f⟩ := h.src q e.1 e.2
      exact ⟨p, by omega, by omega, f⟩
    · exact ⟨q, h1, h2, h.out q (by omega)⟩⟩
theorem Within.swp {a b i j : Nat} {l : List (Int × Int)} (hi : a ≤ i) (hi' : i < b) (hj : a ≤ j) (hj' : j < b) (hb : b ≤ l.length) : Within a b l (swp l i j) :=
  ⟨swp_length _ _ _, swp_perm (by omega) (by omega), fun k hk => swp_other (by omega) (by omega), fun q h1 h2 => by
    by_cases e : q = j
    · exact ⟨i, hi, hi', by rw [e]; exact swp_right (by omega)⟩
    · by_cases f : q = i
      · exact ⟨j, hj, hj', by rw [f]; exact swp_left (by omega) (by omega)⟩
      · exact ⟨q, h1, h2, swp_other (by omega) (by omega)⟩⟩

/-- the insertion's way: from a up to i (both in) all but the entry at j are in order, and those above j are not before it -/
structure Ins (l : List (Int × Int)) (a i j : Nat) : Prop where
  rest : ∀ p q, a ≤ p → p < q → q ≤ i → p ≠ j → q ≠ j → befE (ent l q) (ent l p) = false
  up : ∀ q, j < q → q ≤ i → befE (ent l q) (ent l j) = false

theorem Ins.start {l : List (Int × Int)} {a i : Nat} (h : SortedOn l a i) : Ins l a i i :=
  ⟨fun p q hp hpq hq _ hqi => h p q hp hpq (by omega), fun q h1 h2 => by omega⟩
theorem Ins.step {l : List (Int × Int)} {a i j : Nat} (h : Ins l a i j) (hj : a < j) (hji : j ≤ i) (hi : i < l.length) (hb : befE (ent l j) (ent l (j - 1)) = true) : Ins (swp l j (j - 1)) a i (j - 1) := by
  have e1 : ent (swp l j (j - 1)) j = ent l (j - 1) := swp_left (by omega) (by omega)
  have e2 : ent (swp l j (j - 1)) (j - 1) = ent l j := swp_right (by omega)
  have e3 : ∀ k, k ≠ j → k ≠ j - 1 → ent (swp l j (j - 1)) k = ent l k := fun k h1 h2 => swp_other (Ne.symm h1) (Ne.symm h2)
  refine ⟨fun p q hp hpq hq h1 h2 => ?_, fun q h1 h2 => ?_⟩
  · by_cases hqj : q = j
    · subst hqj
      rw [e1, e3 p (by omega) h1]
      exact h.rest p (q - 1) hp (by omega) (by omega) (by omega) (by omega)
    · by_cases hpj : p = j
      · subst hpj
        rw [e1, e3 q hqj h2]
        exact h.rest (p - 1) q (by omega) (by omega) hq (by omega) hqj
      · rw [e3 p hpj h1, e3 q hqj h2]
        exact h.rest p q hp hpq hq hpj hqj
  · by_cases hqj : q = j
    · subst hqj
      rw [e1, e2]; exact befE_asymm hb
    · rw [e2, e3 q hqj (by omega)]; exact h.up q (by omega) h2
theorem Ins.done {l : List (Int × Int)} {a i j : Nat} (h : Ins l a i j) (hj : a ≤ j) (hji : j ≤ i) (hb : j = a ∨ befE (ent l j) (ent l (j - 1)) = false) : SortedOn l a (i + 1) := by
  intro p q hp hpq hq
  by_cases hqj : q = j
  · subst hqj
    rcases hb with hb | hb
    · omega
    · by_cases e : p = q - 1
      · subst e; exact hb
      · exact befE_le_trans (h.rest p (q - 1) hp (by omega) (by omega) (by omega) (by omega)) hb
  · by_cases hpj : p = j
    · subst hpj; exact h.up q hpq (by omega)
    · exact h.rest p q hp hpq (by omega) hpj hqj
end Go.Proofs.Ytjjahhiaelaocaa
