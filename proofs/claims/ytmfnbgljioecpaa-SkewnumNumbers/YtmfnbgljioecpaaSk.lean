/- Skew numbers as plain lists: what is Right, what a Rank counts, one more, one less. -/
import Derived.Test.YtmfnbgljioecpaaMem
namespace Go.Proofs.Ytmfnbgljioecpaa
open Go.ChangeShapes Go.WideShapes Go.ChangeAt Go.RowKit

/-- what a Rank counts -/
def cn : Nat → Int
  | 0 => 1
  | k + 1 => 2 * cn k + 1
theorem cn_pos : ∀ k, 1 ≤ cn k
  | 0 => by simp [cn]
  | k + 1 => by have := cn_pos k; simp only [cn]; omega
theorem cn_le : ∀ {j k : Nat}, j ≤ k → cn j ≤ cn k
  | j, 0, h => by rw [show j = 0 by omega]; exact Int.le_refl _
  | j, k + 1, h => by
    by_cases c : j = k + 1
    · rw [c]; exact Int.le_refl _
    · have := cn_le (j := j) (k := k) (by omega)
      have := cn_pos k
      simp only [cn]; omega
theorem cn_top : ∀ k, k ≤ 28 → cn k ≤ 536870911 := fun k h => by
  have := cn_le h
  have e : cn 28 = 536870911 := by decide
  omega

def vl : List Int → Int
  | [] => 0
  | a :: t => cn a.toNat + vl t
theorem vl_append : ∀ l m : List Int, vl (l ++ m) = vl l + vl m
  | [], m => by simp [vl]
  | a :: t, m => by simp only [List.cons_append, vl, vl_append t m]; omega
theorem vl_nonneg : ∀ l : List Int, 0 ≤ vl l
  | [] => by simp [vl]
  | a :: t => by have := vl_nonneg t; have := cn_pos a.toNat; simp only [vl]; omega

/-- what is a skew number -/
def R (l : List Int) : Prop := (∀ x ∈ l, 0 ≤ x ∧ x ≤ 28) ∧ l.tail.Pairwise (· < ·) ∧ ∀ a b t, l = a :: b :: t → a ≤ b

theorem R_nil : R [] := ⟨by simp, by simp, by simp⟩
theorem vl_le : ∀ l : List Int, (∀ x ∈ l, 0 ≤ x ∧ x ≤ 28) → vl l ≤ 536870911 * l.length
  | [], _ => by simp [vl]
  | a :: t, h => by
    have h1 := vl_le t fun x hx => h x (by simp [hx])
    have h2 := cn_top a.toNat (by have := h a (by simp); omega)
    simp only [vl, List.length_cons]
    push_cast
    omega

/-- two that lie side by side -/
def Adj (l : List Int) (i : Nat) : Prop := ∀ x y, l[i]? = some x → l[i + 1]? = some y → x ≤ y ∧ (0 < i → x < y)

theorem pw_of_adj : ∀ l : List Int, (∀ i x y, l[i]? = some x → l[i + 1]? = some y → x < y) → l.Pairwise (· < ·)
  | [], _ => by simp
  | [a], _ => by simp
  | a :: b :: t, h => by
    have ih := pw_of_adj (b :: t) fun i x y h1 h2 => h (i + 1) x y (by simpa using h1) (by simpa using h2)
    have hab := h 0 a b rfl rfl
    refine List.pairwise_cons.2 ⟨fun x hx => ?_, ih⟩
    rcases List.mem_cons.1 hx with rfl | hx
    · exact hab
    · exact Int.lt_trans hab ((List.pairwise_cons.1 ih).1 x hx)
theorem adj_of_pw {l : List Int} (h : l.Pairwise (· < ·)) {i : Nat} {x y : Int} (h1 : l[i]? = some x) (h2 : l[i + 1]? = some y) : x < y := by
  obtain ⟨hi, rfl⟩ := List.getElem?_eq_some_iff.1 h1
  obtain ⟨hj, rfl⟩ := List.getElem?_eq_some_iff.1 h2
  exact List.pairwise_iff_getElem.1 h i (i + 1) hi hj (by omega)

theorem R_iff (l : List Int) : R l ↔ (∀ x ∈ l, 0 ≤ x ∧ x ≤ 28) ∧ ∀ i, Adj l i := by
  constructor
  · rintro ⟨h1, h2, h3⟩
    refine ⟨h1, fun i x y hx hy => ?_⟩
    cases i with
    | zero =>
      refine ⟨?_, fun h => absurd h (by omega)⟩
      match l, hx, hy with
      | a :: b :: t, hx, hy =>
        simp at hx hy
        subst hx; subst hy
        exact h3 _ _ t rfl
    | succ i =>
      match l, hx, hy with
      | a :: t, hx, hy =>
        have := adj_of_pw h2 (i := i) (x := x) (y := y) (by simpa using hx) (by simpa using hy)
        exact ⟨by omega, fun _ => this⟩
  · rintro ⟨h1, h2⟩
    refine ⟨h1, pw_of_adj _ fun i x y hx hy => ?_, ?_⟩
    · rw [List.getElem?_tail] at hx hy
      exact (h2 (i + 1) x y hx hy).2 (by omega)
    · rintro a b t rfl
      exact (h2 0 a b rfl rfl).1

/-- all of what is Right lies between its first and its last -/
theorem adj_mono {l : List Int} (h : ∀ i, Adj l i) : ∀ {i j : Nat} {x y : Int}, i ≤ j → l[i]? = some x → l[j]? = some y → x ≤ y
  | i, 0, x, y, hij, hx, hy => by
    obtain rfl : i = 0 := by omega
    rw [hx] at hy; injection hy with e; omega
  | i, j + 1, x, y, hij, hx, hy => by
    by_cases c : i = j + 1
    · subst c; rw [hx] at hy; injection hy with e; omega
    · have hj : j < l.length := by have := (List.getElem?_eq_some_iff.1 hy).1; omega
      have hz := List.getElem?_eq_getElem hj
      have h1 := adj_mono h (by omega : i ≤ j) hx hz
      have h2 := (h j _ y hz hy).1
      omega
theorem R_ends {l : List Int} (h : ∀ i, Adj l i) (h0 : l ≠ []) : R l ↔ (0 : Int) ≤ (l[0]? : Option Int).getD 0 ∧ (l[l.length - 1]? : Option Int).getD 0 ≤ (28 : Int) := by
  have hl : 0 < l.length := List.length_pos_iff.2 h0
  have e0 := List.getElem?_eq_getElem hl
  have e1 := List.getElem?_eq_getElem (show l.length - 1 < l.length by omega)
  rw [R_iff, e0, e1]
  simp only [Option.getD_some]
  constructor
  · rintro ⟨h1, _⟩
    exact ⟨(h1 _ (List.getElem_mem _)).1, (h1 _ (List.getElem_mem _)).2⟩
  · rintro ⟨h1, h2⟩
    refine ⟨fun x hx => ?_, h⟩
    obtain ⟨i, hi, rfl⟩ := List.getElem_of_mem hx
    have hx := List.getElem?_eq_getElem hi
    have a1 := adj_mono h (Nat.zero_le i) e0 hx
    have a2 := adj_mono h (show i ≤ l.length - 1 by omega) hx e1
    omega

theorem R_pre {l m : List Int} (h : R (l ++ m)) : R l := by
  obtain ⟨h1, h2, h3⟩ := h
  refine ⟨fun x hx => h1 x (by simp [hx]), ?_, ?_⟩
  · cases l with
    | nil => simp
    | cons a t =>
      simp only [List.cons_append, List.tail_cons] at h2 ⊢
      exact (List.pairwise_append.1 h2).1
  · rintro a b t rfl
    exact h3 a b (t ++ m) rfl

theorem R_last {A : List Int} {a : Int} (h : R (A ++ [a])) : A = [a] ∨ ∀ x ∈ A, x < a := by
  obtain ⟨h1, h2, h3⟩ := h
  cases A with
  | nil => right; simp
  | cons c t =>
    simp only [List.cons_append, List.tail_cons] at h2
    have h4 := (List.pairwise_append.1 h2).2.2
    cases t with
    | nil =>
      have := h3 c a [] rfl
      by_cases e : c = a
      · left; rw [e]
      · right; intro x hx; simp at hx; omega
    | cons d t' =>
      right
      have := h3 c d (t' ++ [a]) rfl
      have hd := h4 d (by simp) a (by simp)
      intro x hx
      rcases List.mem_cons.1 hx with rfl | hx
      · omega
      · exact h4 x hx a (by simp)

/-- Ranks below k count together less than k -/
theorem vl_lt : ∀ (k : Nat) (A : List Int), R A → (∀ x ∈ A, x < (k : Int)) → vl A < cn k
  | 0, A, h, hk => by
    cases A with
    | nil => simp [vl, cn]
    | cons a t => have := h.1 a (by simp); have := hk a (by simp); omega
  | k + 1, A, h, hk => by
    have hp := cn_pos k
    rcases List.eq_nil_or_concat A with rfl | ⟨B, a, rfl⟩
    · simp only [vl, cn]; omega
    · have ha := hk a (by simp)
      have h0 := (h.1 a (by simp)).1
      simp only [List.concat_eq_append] at *
      by_cases c : a < (k : Int)
      · have := vl_lt k (B ++ [a]) h fun x hx => by
          rcases R_last h with e | e
          · rw [e] at hx; simp at hx; omega
          · rcases List.mem_append.1 hx with hx | hx
            · have := e x hx; omega
            · simp at hx; omega
        simp only [cn]; omega
      · obtain rfl : a = (k : Int) := by omega
        rw [vl_append]
        rcases R_last h with e | e
        · rw [e]; simp only [vl, cn, Int.toNat_natCast]; omega
        · have := vl_lt k B (R_pre h) e
          simp only [vl, cn, Int.toNat_natCast]; omega

/-- one more -/
def incS : List Int → List Int
  | a :: b :: t => if a = b then (a + 1) :: t else 0 :: a :: b :: t
  | l => 0 :: l
/-- one less -/
def decS : List Int → List Int
  | [] => []
  | a :: t => if a = 0 then t else (a - 1) :: (a - 1) :: t

theorem R_inc {l : List Int} (h : R l) (hn : vl l < 268435456) : R (incS l) ∧ vl (incS l) = vl l + 1 := by
  obtain ⟨h1, h2, h3⟩ := h
  match l with
  | [] => exact ⟨⟨by simp [incS], by simp [incS], by simp [incS]⟩, by simp [incS, vl, cn]⟩
  | [a] =>
    have ha := h1 a (by simp)
    refine ⟨⟨by simp [incS]; omega, by simp [incS], ?_⟩, ?_⟩
    · intro x y t e; simp [incS] at e; omega
    · simp [incS, vl, cn]; omega
  | a :: b :: t =>
    have hab := h3 a b t rfl
    have ha := h1 a (by simp)
    have hb := h1 b (by simp)
    simp only [incS]
    split
    · rename_i e
      subst e
      have ht := h2
      simp only [List.tail_cons, List.pairwise_cons] at ht
      have ha28 : a ≤ 27 := by
        have h5 := vl_nonneg t
        simp only [vl] at hn
        by_cases c : 28 ≤ a
        · have h6 := cn_le (show 28 ≤ a.toNat by omega)
          have h7 : cn 28 = 536870911 := by decide
          omega
        · omega
      refine ⟨⟨?_, ?_, ?_⟩, ?_⟩
      · intro x hx
        rcases List.mem_cons.1 hx with rfl | hx
        · omega
        · exact h1 x (by simp [hx])
      · exact ht.2
      · rintro x y t' e
        simp only [List.cons.injEq] at e
        obtain ⟨rfl, rfl⟩ := e
        have := ht.1 y (by simp)
        omega
      · simp only [vl]
        rw [show (a + 1).toNat = a.toNat + 1 by omega]
        simp only [cn]; omega
    · rename_i e
      refine ⟨⟨?_, ?_, ?_⟩, ?_⟩
      · intro x hx
        rcases List.mem_cons.1 hx with rfl | hx
        · omega
        · exact h1 x hx
      · simp only [List.tail_cons] at h2 ⊢
        refine List.pairwise_cons.2 ⟨fun x hx => ?_, h2⟩
        rcases List.mem_cons.1 hx with rfl | hx
        · omega
        · have := (List.pairwise_cons.1 h2).1 x hx; omega
      · rintro x y t' e
        simp only [List.cons.injEq] at e
        omega
      · simp only [vl, cn, Int.toNat_zero]; omega

theorem R_dec {l : List Int} (h : R l) (h0 : l ≠ []) : R (decS l) ∧ vl (decS l) = vl l - 1 := by
  obtain ⟨h1, h2, h3⟩ := h
  match l, h0 with
  | a :: t, _ =>
    have ha := h1 a (by simp)
    simp only [List.tail_cons] at h2
    simp only [decS]
    split
    · rename_i e
      subst e
      refine ⟨⟨fun x hx => h1 x (by simp [hx]), ?_, ?_⟩, ?_⟩
      · cases t with
        | nil => simp
        | cons b t => exact (List.pairwise_cons.1 h2).2
      · rintro x y t' rfl
        have := (List.pairwise_cons.1 h2).1 y (by simp); omega
      · simp [vl, cn]; omega
    · rename_i e
      refine ⟨⟨?_, ?_, ?_⟩, ?_⟩
      · intro x hx
        rcases List.mem_cons.1 hx with rfl | hx
        · omega
        · rcases List.mem_cons.1 hx with rfl | hx
          · omega
          · exact h1 x (by simp [hx])
      · simp only [List.tail_cons]
        refine List.pairwise_cons.2 ⟨fun x hx => ?_, h2⟩
        cases t with
        | nil => cases hx
        | cons b t' =>
          have hab := h3 a b t' rfl
          rcases List.mem_cons.1 hx with rfl | hx
          · omega
          · have := (List.pairwise_cons.1 h2).1 x hx; omega
      · rintro x y t' e
        simp only [List.cons.injEq] at e
        omega
      · simp only [vl]
        obtain ⟨k, hk⟩ : ∃ k, a.toNat = k + 1 := ⟨a.toNat - 1, by omega⟩
        rw [show (a - 1).toNat = k by omega, hk]
        simp only [cn]; omega

theorem dec_inc {l : List Int} (h : ∀ x ∈ l, 0 ≤ x) : decS (incS l) = l := by
  match l with
  | [] => simp [incS, decS]
  | [a] => simp [incS, decS]
  | a :: b :: t =>
    have := h a (by simp)
    simp only [incS]
    split
    · rename_i e
      subst e
      simp only [decS]
      rw [if_neg (by omega)]
      simp
    · simp [decS]
theorem inc_dec {l : List Int} (h : R l) (h0 : l ≠ []) : incS (decS l) = l := by
  obtain ⟨h1, h2, h3⟩ := h
  match l, h0 with
  | a :: t, _ =>
    simp only [decS]
    split
    · rename_i e
      subst e
      match t with
      | [] => simp [incS]
      | [b] => simp [incS]
      | b :: c :: t =>
        simp only [List.tail_cons, List.pairwise_cons] at h2
        have := h2.1 c (by simp)
        simp only [incS]
        rw [if_neg (by omega)]
    · simp only [incS]
      simp

/-- the skew number of a value -/
def tn : Nat → List Int
  | 0 => []
  | n + 1 => incS (tn n)
theorem tn_right : ∀ n : Nat, n ≤ 268435456 → R (tn n) ∧ vl (tn n) = n
  | 0, _ => ⟨R_nil, by simp [tn, vl]⟩
  | n + 1, h => by
    obtain ⟨h1, h2⟩ := tn_right n (by omega)
    have := R_inc h1 (by omega)
    exact ⟨this.1, by simp only [tn]; rw [this.2]; omega⟩
theorem R_len : ∀ {l : List Int}, R l → l.length ≤ 30 := fun {l} h => by
  have pw : ∀ (m : List Int) (k : Int), (∀ x ∈ m, k ≤ x ∧ x ≤ 28) → m.Pairwise (· < ·) → (m.length : Int) ≤ max 0 (29 - k) := by
    intro m
    induction m with
    | nil => intro k _ _; simp; omega
    | cons a t ih =>
      intro k h1 h2
      have h3 := List.pairwise_cons.1 h2
      have ha := h1 a (by simp)
      have := ih (a + 1) (fun x hx => ⟨by have := h3.1 x hx; omega, (h1 x (by simp [hx])).2⟩) h3.2
      simp only [List.length_cons]
      push_cast
      omega
  cases l with
  | nil => simp
  | cons a t =>
    have := pw t 0 (fun x hx => h.1 x (by simp [hx])) h.2.1
    simp only [List.length_cons]
    omega
end Go.Proofs.Ytmfnbgljioecpaa
