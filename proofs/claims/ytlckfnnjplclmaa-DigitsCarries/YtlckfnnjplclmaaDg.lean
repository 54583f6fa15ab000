/- Rows of digits as plain lists: what is Regular, what they count, one more. -/
import Derived.Test.YtlckfnnjplclmaaMem
namespace Go.Proofs.Ytlckfnnjplclmaa
open Go.ChangeShapes Go.WideShapes Go.ChangeAt Go.RowKit

/-- is there room for a digit 2: since the last one there was a 0 -/
def rg : Bool → List Int → Bool
  | _, [] => true
  | r, x :: t => if x = 0 then rg true t else if x = 2 ∧ r = true then rg false t else if x = 1 then rg r t else false
/-- is the last one of d and these not 0 -/
def lk : Int → List Int → Bool
  | d, [] => d != 0
  | _, x :: t => lk x t
def rgB (l : List Int) : Bool := decide (l.length ≤ 40) && lk 1 l && rg true l
/-- what they count -/
def vl : List Int → Int
  | [] => 0
  | x :: t => x + 2 * vl t
/-- the lowest one more -/
def up : List Int → List Int
  | [] => [1]
  | x :: t => (x + 1) :: t
/-- the lowest 2 carried -/
def cr : List Int → List Int
  | [] => []
  | x :: t => if x = 2 then 0 :: up t else x :: cr t
/-- where the lowest 2 is -/
def fi : List Int → Nat
  | [] => 0
  | x :: t => if x = 2 then 0 else fi t + 1
/-- how many carries an Inc makes -/
def cq (l : List Int) : Nat := if fi l < l.length then 1 else 0

theorem fi_le : ∀ l : List Int, fi l ≤ l.length
  | [] => by simp [fi]
  | x :: t => by have := fi_le t; simp only [fi, List.length_cons]; split <;> omega
theorem fi_at : ∀ l : List Int, fi l < l.length → l[fi l]? = some 2
  | [], h => by simp at h
  | x :: t, h => by
    simp only [fi, List.length_cons] at h ⊢
    split
    · rename_i e; subst e; rfl
    · rename_i e
      rw [if_neg e] at h
      simpa using fi_at t (by omega)
theorem fi_ne : ∀ (l : List Int) (i : Nat) (x : Int), i < fi l → l[i]? = some x → x ≠ 2
  | [], i, x, h, _ => by simp [fi] at h
  | y :: t, i, x, h, hx => by
    simp only [fi] at h
    by_cases e : y = 2
    · rw [if_pos e] at h; omega
    · rw [if_neg e] at h
      cases i with
      | zero => simp at hx; subst hx; exact e
      | succ i => exact fi_ne t i x (by omega) (by simpa using hx)
theorem fi_eq {l : List Int} {i : Nat} (h : i ≤ fi l) (hx : l[i]? = some 2) : fi l = i := by
  by_cases c : i = fi l
  · exact c.symm
  · exact absurd rfl (fi_ne l i 2 (by omega) hx)
theorem fi_lt {l : List Int} {i : Nat} {x : Int} (h : i ≤ fi l) (hx : l[i]? = some x) (hn : x ≠ 2) : i + 1 ≤ fi l := by
  by_cases c : i = fi l
  · have hi : i < l.length := (List.getElem?_eq_some_iff.1 hx).1
    have := fi_at l (by omega)
    rw [← c, hx] at this
    injection this with this
    exact absurd this hn
  · omega

theorem cr_none : ∀ l : List Int, l.length ≤ fi l → cr l = l
  | [], _ => rfl
  | x :: t, h => by
    simp only [fi, List.length_cons] at h
    by_cases e : x = 2
    · rw [if_pos e] at h; omega
    · rw [if_neg e] at h
      simp only [cr]
      rw [if_neg e, cr_none t (by omega)]
/-- the lowest 2 is the last one: there is one more digit -/
theorem cr_last : ∀ l : List Int, fi l < l.length → fi l + 1 = l.length → cr l = l.set (fi l) 0 ++ [1]
  | [], h, _ => by simp at h
  | x :: t, h, h1 => by
    simp only [fi, List.length_cons] at h h1 ⊢
    simp only [cr]
    by_cases e : x = 2
    · rw [if_pos e] at h h1 ⊢
      rw [if_pos e]
      have : t = [] := List.eq_nil_of_length_eq_zero (by omega)
      subst this
      rfl
    · rw [if_neg e] at h h1 ⊢
      rw [if_neg e, cr_last t (by omega) (by omega)]
      rfl
theorem cr_mid : ∀ (l : List Int) (x : Int), l[fi l + 1]? = some x → cr l = (l.set (fi l) 0).set (fi l + 1) (x + 1)
  | [], x, h => by simp at h
  | y :: t, x, h => by
    simp only [fi] at h ⊢
    simp only [cr]
    by_cases e : y = 2
    · rw [if_pos e] at h ⊢
      rw [if_pos e]
      match t, h with
      | z :: s, h =>
        simp at h; subst h
        rfl
    · rw [if_neg e] at h ⊢
      rw [if_neg e, cr_mid t x (by simpa using h)]
      rfl
theorem up_set {l : List Int} {x : Int} (h : l[0]? = some x) : up l = l.set 0 (x + 1) := by
  match l, h with
  | y :: t, h => simp at h; subst h; rfl
theorem up_len (l : List Int) : (up l).length ≤ l.length + 1 := by cases l <;> simp [up]
theorem cr_len : ∀ l : List Int, (cr l).length ≤ l.length + 1
  | [] => by simp [cr]
  | x :: t => by
    have h1 := up_len t
    have h2 := cr_len t
    simp only [cr]
    split <;> simp only [List.length_cons] <;> omega

theorem rg_mem : ∀ (r : Bool) (l : List Int), rg r l = true → ∀ x ∈ l, 0 ≤ x ∧ x ≤ 2
  | _, [], _, x, hx => by simp at hx
  | r, y :: t, h, x, hx => by
    simp only [rg] at h
    rcases List.mem_cons.1 hx with rfl | hx
    · split at h
      · omega
      · split at h
        · omega
        · split at h
          · omega
          · cases h
    · split at h
      · exact rg_mem _ t h x hx
      · split at h
        · exact rg_mem _ t h x hx
        · split at h
          · exact rg_mem _ t h x hx
          · cases h
theorem rg_mono : ∀ l : List Int, rg false l = true → rg true l = true
  | [], _ => rfl
  | x :: t, h => by
    simp only [rg] at h ⊢
    by_cases e0 : x = 0
    · rw [if_pos e0] at h ⊢; exact h
    · rw [if_neg e0] at h ⊢
      rw [if_neg (by simp)] at h
      by_cases e1 : x = 1
      · rw [if_pos e1] at h
        rw [if_neg (by omega), if_pos e1]
        exact rg_mono t h
      · rw [if_neg e1] at h; cases h
theorem up_rg : ∀ l : List Int, rg false l = true → rg true (up l) = true
  | [], _ => by simp [up, rg]
  | x :: t, h => by
    simp only [rg] at h
    simp only [up, rg]
    by_cases e0 : x = 0
    · rw [if_pos e0] at h
      subst e0
      simpa using h
    · rw [if_neg e0, if_neg (by simp)] at h
      by_cases e1 : x = 1
      · rw [if_pos e1] at h
        subst e1
        simpa using h
      · rw [if_neg e1] at h; cases h
theorem cr_rg : ∀ l : List Int, rg true l = true → rg false (cr l) = true
  | [], _ => by simp [cr, rg]
  | x :: t, h => by
    simp only [rg] at h
    simp only [cr]
    by_cases e0 : x = 0
    · rw [if_pos e0] at h
      subst e0
      rw [if_neg (by omega)]
      simp only [rg]
      rw [if_pos trivial]
      exact rg_mono _ (cr_rg t h)
    · rw [if_neg e0] at h
      by_cases e2 : x = 2
      · rw [if_pos ⟨e2, trivial⟩] at h
        rw [if_pos e2]
        simp only [rg]
        rw [if_pos trivial]
        exact up_rg t h
      · rw [if_neg (fun e => e2 e.1)] at h
        by_cases e1 : x = 1
        · rw [if_pos e1] at h
          rw [if_neg e2]
          simp only [rg]
          rw [if_neg e0, if_neg (by simp), if_pos e1]
          exact cr_rg t h
        · rw [if_neg e1] at h; cases h
theorem up_lk {d e : Int} : ∀ l : List Int, (∀ x ∈ l, (0 : Int) ≤ x) → (l = [] ∨ lk e l = true) → lk d (up l) = true
  | [], _, _ => by simp [up, lk]
  | x :: t, h0, h => by
    have hx := h0 x (by simp)
    rcases h with h | h
    · cases h
    simp only [lk] at h
    simp only [up, lk]
    match t, h with
    | [], h => simp only [lk] at h ⊢; simp; omega
    | y :: s, h => simpa only [lk] using h
theorem cr_lk : ∀ (d : Int) (l : List Int), (∀ x ∈ l, (0 : Int) ≤ x) → lk d l = true → lk d (cr l) = true
  | d, [], _, h => h
  | d, x :: t, h0, h => by
    simp only [lk] at h
    simp only [cr]
    by_cases e : x = 2
    · rw [if_pos e]
      simp only [lk]
      exact up_lk (e := x) t (fun y hy => h0 y (by simp [hy])) (Or.inr h)
    · rw [if_neg e]
      simp only [lk]
      exact cr_lk x t (fun y hy => h0 y (by simp [hy])) h
theorem cr_nonneg : ∀ l : List Int, (∀ x ∈ l, (0 : Int) ≤ x) → ∀ x ∈ cr l, (0 : Int) ≤ x
  | [], _, x, hx => by simp [cr] at hx
  | y :: t, h0, x, hx => by
    simp only [cr] at hx
    by_cases e : y = 2
    · rw [if_pos e] at hx
      rcases List.mem_cons.1 hx with rfl | hx
      · omega
      · match t, hx with
        | [], hx => simp [up] at hx; omega
        | z :: s, hx =>
          have hz := h0 z (by simp)
          simp only [up] at hx
          rcases List.mem_cons.1 hx with rfl | hx
          · omega
          · exact h0 x (by simp [hx])
    · rw [if_neg e] at hx
      rcases List.mem_cons.1 hx with rfl | hx
      · exact h0 x (by simp)
      · exact cr_nonneg t (fun y hy => h0 y (by simp [hy])) x hx
theorem up_vl : ∀ l : List Int, vl (up l) = vl l + 1
  | [] => by simp [up, vl]
  | x :: t => by simp only [up, vl]; omega
theorem cr_vl : ∀ l : List Int, vl (cr l) = vl l
  | [] => rfl
  | x :: t => by
    have h := cr_vl t
    have h2 := up_vl t
    simp only [cr]
    by_cases e : x = 2
    · rw [if_pos e]; simp only [vl]; omega
    · rw [if_neg e]; simp only [vl]; omega
theorem vl_nonneg : ∀ l : List Int, (∀ x ∈ l, (0 : Int) ≤ x) → 0 ≤ vl l
  | [], _ => by simp [vl]
  | x :: t, h => by
    have h1 := vl_nonneg t fun y hy => h y (by simp [hy])
    have h2 := h x (by simp)
    simp only [vl]; omega
theorem vl_le : ∀ l : List Int, (∀ x ∈ l, x ≤ 2) → vl l ≤ 2 * (2 ^ l.length - 1)
  | [], _ => by simp [vl]
  | x :: t, h => by
    have h1 := vl_le t fun y hy => h y (by simp [hy])
    have h2 := h x (by simp)
    simp only [vl, List.length_cons]
    rw [Int.pow_succ]; omega
theorem vl_ge : ∀ (x : Int) (t : List Int), (∀ y ∈ x :: t, (0 : Int) ≤ y) → lk x t = true → 2 ^ t.length ≤ vl (x :: t)
  | x, [], h, hl => by
    have := h x (by simp)
    simp only [lk] at hl
    simp at hl
    simp [vl]; omega
  | x, y :: s, h, hl => by
    have h1 := vl_ge y s (fun z hz => h z (by simp [List.mem_cons.1 hz])) (by simpa only [lk] using hl)
    have h2 := h x (by simp)
    simp only [List.length_cons]
    rw [show vl (x :: y :: s) = x + 2 * vl (y :: s) from rfl, Int.pow_succ]
    omega

/-- the digits behind so many Incs -/
def tn : Nat → List Int
  | 0 => []
  | n + 1 => up (cr (tn n))
/-- all carries so far -/
def cs : Nat → Nat
  | 0 => 0
  | n + 1 => cs n + cq (tn n)
theorem tn_ok : ∀ n, rg true (tn n) = true ∧ lk 1 (tn n) = true ∧ vl (tn n) = n
  | 0 => ⟨rfl, rfl, rfl⟩
  | n + 1 => by
    obtain ⟨h1, h2, h3⟩ := tn_ok n
    have h0 : ∀ x ∈ tn n, (0 : Int) ≤ x := fun x hx => (rg_mem _ _ h1 x hx).1
    refine ⟨up_rg _ (cr_rg _ h1), up_lk (e := 1) _ (cr_nonneg _ h0) (Or.inr (cr_lk 1 _ h0 h2)), ?_⟩
    show vl (up (cr (tn n))) = _
    rw [up_vl, cr_vl, h3]; omega
theorem tn_bits (n : Nat) (h : 0 < n) : 1 ≤ (tn n).length ∧ 2 ^ ((tn n).length - 1) ≤ n := by
  obtain ⟨h1, h2, h3⟩ := tn_ok n
  match e : tn n, h1, h2, h3 with
  | [], _, _, h3 => simp [vl] at h3; omega
  | x :: t, h1, h2, h3 =>
    refine ⟨by simp, ?_⟩
    have := vl_ge x t (fun y hy => (rg_mem _ _ h1 y hy).1) (by simpa only [lk] using h2)
    rw [h3] at this
    simp only [List.length_cons, Nat.add_sub_cancel]
    exact_mod_cast this
theorem tn_len (n : Nat) (h : n ≤ 8000) : (tn n).length ≤ 13 := by
  by_cases c : n = 0
  · subst c; simp [tn]
  · obtain ⟨h1, h2⟩ := tn_bits n (by omega)
    by_cases c2 : (tn n).length ≤ 13
    · exact c2
    · have : 2 ^ 13 ≤ 2 ^ ((tn n).length - 1) := Nat.pow_le_pow_right (by omega) (by omega)
      omega
theorem tn_rgB (n : Nat) (h : n ≤ 8000) : rgB (tn n) = true := by
  obtain ⟨h1, h2, h3⟩ := tn_ok n
  have := tn_len n h
  unfold rgB
  rw [h1, h2, decide_eq_true (by omega)]; rfl
theorem cq_le (l : List Int) : cq l ≤ 1 := by unfold cq; split <;> omega
theorem cs_le : ∀ n, cs n ≤ n
  | 0 => Nat.le_refl _
  | n + 1 => by have := cs_le n; have := cq_le (tn n); simp only [cs]; omega
end Go.Proofs.Ytlckfnnjplclmaa
