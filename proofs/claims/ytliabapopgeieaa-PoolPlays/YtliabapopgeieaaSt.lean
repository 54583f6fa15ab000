/- The pool as plain data: its places, their lives, those that were given back. -/
import Derived.Test.YtliabapopgeieaaMem
namespace Go.Proofs.Ytliabapopgeieaa
open Go.ChangeShapes Go.WideShapes Go.ChangeAt Go.RowKit

theorem info_parts {P : Program} {t : TypeId} {z : Value} {n b : Nat} (h : (P.info? t).map (fun i => (i.zero, i.size, i.bytes)) = some (some z, n, b)) : ∃ i, P.info? t = some i ∧ i.zero = some z ∧ i.size = n ∧ i.bytes = b := by
  cases hq : P.info? t with
  | none => simp [hq] at h
  | some i => simp [hq] at h; exact ⟨i, rfl, h.1, h.2.1, h.2.2⟩

theorem info3 : (Try.prog.info? 3).map (fun i => (i.zero, i.size, i.bytes)) = some (some (.int .i64 0), 1, 8) := by kernel_rfl
/-- how many places there are -/
def most0 (n : Int) : Nat := (min (max n 0) 65536).toNat

structure St (α : Type) where
  most : Nat
  pl : List (α × Nat × Bool)
  back : List Nat

/-- what a Ref is told -/
def lookS {α : Type} (l : List (α × Nat × Bool)) (a g : Int) : Int :=
  if a < 0 then 22 else match l[a.toNat]? with
  | none => 22
  | some x => if g < 1 ∨ (x.2.1 : Int) < g then 22 else if g < x.2.1 ∨ x.2.2 = false then 23 else 0

section
variable {α : Type} {l : List (α × Nat × Bool)} {a g : Int}
theorem lookS_neg (h : a < 0) : lookS l a g = 22 := by unfold lookS; rw [if_pos h]
theorem lookS_far (h : (l.length : Int) ≤ a) : lookS l a g = 22 := by
  unfold lookS; rw [if_neg (by omega), List.getElem?_eq_none (by omega)]
theorem lookS_at {x : α × Nat × Bool} (h0 : 0 ≤ a) (h : l[a.toNat]? = some x) : lookS l a g = if g < 1 ∨ (x.2.1 : Int) < g then 22 else if g < x.2.1 ∨ x.2.2 = false then 23 else 0 := by
  unfold lookS; rw [if_neg (by omega), h]
theorem lookS_low {x : α × Nat × Bool} (h0 : 0 ≤ a) (h : l[a.toNat]? = some x) (hg : g < 1) : lookS l a g = 22 := by rw [lookS_at h0 h, if_pos (Or.inl hg)]
theorem lookS_high {x : α × Nat × Bool} (h0 : 0 ≤ a) (h : l[a.toNat]? = some x) (hg : (x.2.1 : Int) < g) : lookS l a g = 22 := by rw [lookS_at h0 h, if_pos (Or.inr hg)]
theorem lookS_over {x : α × Nat × Bool} (h0 : 0 ≤ a) (h : l[a.toNat]? = some x) (h1 : 1 ≤ g) (hg : g < (x.2.1 : Int)) : lookS l a g = 23 := by rw [lookS_at h0 h, if_neg (by omega), if_pos (Or.inl hg)]
theorem lookS_free {x : α × Nat × Bool} (h0 : 0 ≤ a) (h : l[a.toNat]? = some x) (h1 : 1 ≤ g) (hg : g = (x.2.1 : Int)) (ht : x.2.2 = false) : lookS l a g = 23 := by rw [lookS_at h0 h, if_neg (by omega), if_pos (Or.inr ht)]
theorem lookS_ok {x : α × Nat × Bool} (h0 : 0 ≤ a) (h : l[a.toNat]? = some x) (h1 : 1 ≤ g) (hg : g = (x.2.1 : Int)) (ht : x.2.2 = true) : lookS l a g = 0 := by rw [lookS_at h0 h, if_neg (by omega), if_neg (by rw [ht]; simp; omega)]
/-- what it is to be told OK -/
theorem lookS_zero (h : lookS l a g = 0) : 0 ≤ a ∧ ∃ x, l[a.toNat]? = some x ∧ 1 ≤ g ∧ g = (x.2.1 : Int) ∧ x.2.2 = true := by
  by_cases c : a < 0
  · rw [lookS_neg c] at h; cases h
  · refine ⟨by omega, ?_⟩
    cases hx : l[a.toNat]? with
    | none => unfold lookS at h; rw [if_neg c, hx] at h; cases h
    | some x =>
      rw [lookS_at (by omega) hx] at h
      refine ⟨x, rfl, ?_⟩
      split at h
      · cases h
      · split at h
        · cases h
        · rename_i h1 h2
          refine ⟨by omega, by omega, ?_⟩
          cases hb : x.2.2
          · exact absurd (Or.inr hb) h2
          · rfl
theorem lookS_three : lookS l a g = 22 ∨ lookS l a g = 23 ∨ lookS l a g = 0 := by
  unfold lookS
  split
  · exact Or.inl rfl
  · split
    · exact Or.inl rfl
    · split
      · exact Or.inl rfl
      · split
        · exact Or.inr (Or.inl rfl)
        · exact Or.inr (Or.inr rfl)
end
/-- which place is taken now -/
def nextS {α : Type} (z : α) (s : St α) : St α × Nat × Bool :=
  match s.back.getLast? with
  | some a => (⟨s.most, s.pl, s.back.dropLast⟩, a, true)
  | none => if s.pl.length = s.most then (s, 0, false) else (⟨s.most, s.pl ++ [(z, 0, false)], s.back⟩, s.pl.length, true)
theorem nextS_back {α : Type} {z : α} {m : Nat} {pl : List (α × Nat × Bool)} {bk : List Nat} {a : Nat} : nextS z ⟨m, pl, bk ++ [a]⟩ = (⟨m, pl, bk⟩, a, true) := by simp [nextS]
theorem nextS_full {α : Type} {z : α} {m : Nat} {pl : List (α × Nat × Bool)} (h : pl.length = m) : nextS z ⟨m, pl, []⟩ = (⟨m, pl, []⟩, 0, false) := by simp [nextS, h]
theorem nextS_new {α : Type} {z : α} {m : Nat} {pl : List (α × Nat × Bool)} (h : pl.length ≠ m) : nextS z ⟨m, pl, []⟩ = (⟨m, pl ++ [(z, 0, false)], []⟩, pl.length, true) := by simp [nextS, h]
/-- how many lives place i had -/
def livS {α : Type} (s : St α) (i : Nat) : Nat := match s.pl[i]? with | some x => x.2.1 | none => 0
/-- a place is taken, with v -/
def takeS {α : Type} (z v : α) (s : St α) : St α := if (nextS z s).2.2 = true then ⟨(nextS z s).1.most, (nextS z s).1.pl.set (nextS z s).2.1 (v, livS (nextS z s).1 (nextS z s).2.1 + 1, true), (nextS z s).1.back⟩ else s
/-- what is told of it -/
def tookS {α : Type} (z : α) (s : St α) : Nat × Nat := if (nextS z s).2.2 = true then ((nextS z s).2.1, livS (nextS z s).1 (nextS z s).2.1 + 1) else (0, 0)
theorem nextS_no {α : Type} {z : α} {s : St α} (h : (nextS z s).2.2 = false) : (nextS z s).1 = s := by
  unfold nextS at h ⊢
  split
  · rename_i e; simp [e] at h
  · split <;> rename_i e c
    · rfl
    · simp [e, c] at h
theorem nextS_in {α : Type} {z : α} {s : St α} (hb : ∀ b ∈ s.back, b < s.pl.length) (h : (nextS z s).2.2 = true) : (nextS z s).2.1 < (nextS z s).1.pl.length := by
  unfold nextS at h ⊢
  split
  · rename_i e; exact hb _ (List.mem_of_getLast? e)
  · split <;> rename_i e c
    · simp [e, c] at h
    · simp
theorem nextS_len {α : Type} {z : α} {s : St α} : (nextS z s).1.pl.length ≤ s.pl.length + 1 := by
  unfold nextS
  split
  · simp
  · split <;> simp
theorem nextS_liv {α : Type} {z : α} {s s1 : St α} {q : Nat × Bool} (hq : nextS z s = (s1, q)) {N : Nat} (h : ∀ x ∈ s.pl, x.2.1 ≤ N) : ∀ x ∈ s1.pl, x.2.1 ≤ N := by
  unfold nextS at hq
  split at hq
  · injection hq with h1 _; subst h1; exact h
  · split at hq
    · injection hq with h1 _; subst h1; exact h
    · injection hq with h1 _
      subst h1
      intro x hx
      simp only [List.mem_append, List.mem_singleton] at hx
      rcases hx with hx | rfl
      · exact h x hx
      · exact Nat.zero_le _
/-- what a Ref's place has, if it may be asked -/
def getS {α : Type} (z : α) (l : List (α × Nat × Bool)) (a g : Int) : α := if lookS l a g = 0 then match l[a.toNat]? with | some x => x.1 | none => z else z
theorem getS_no {α : Type} {z : α} {l : List (α × Nat × Bool)} {a g : Int} (h : lookS l a g ≠ 0) : getS z l a g = z := by unfold getS; rw [if_neg h]
theorem getS_yes {α : Type} {z : α} {l : List (α × Nat × Bool)} {a g : Int} {x : α × Nat × Bool} (h : lookS l a g = 0) (hx : l[a.toNat]? = some x) : getS z l a g = x.1 := by unfold getS; rw [if_pos h, hx]
/-- its life is over -/
def giveS {α : Type} (z : α) (s : St α) (a g : Int) : St α := if lookS s.pl a g = 0 then ⟨s.most, s.pl.set a.toNat (z, livS s a.toNat, false), s.back ++ [a.toNat]⟩ else s
theorem giveS_no {α : Type} {z : α} {s : St α} {a g : Int} (h : lookS s.pl a g ≠ 0) : giveS z s a g = s := by unfold giveS; rw [if_neg h]
theorem giveS_yes {α : Type} {z : α} {s : St α} {a g : Int} {x : α × Nat × Bool} (h : lookS s.pl a g = 0) (hx : s.pl[a.toNat]? = some x) : giveS z s a g = ⟨s.most, s.pl.set a.toNat (z, x.2.1, false), s.back ++ [a.toNat]⟩ := by unfold giveS livS; rw [if_pos h, hx]
/-- it has v -/
def setS {α : Type} (s : St α) (a g : Int) (v : α) : St α := if lookS s.pl a g = 0 then ⟨s.most, s.pl.set a.toNat (v, livS s a.toNat, true), s.back⟩ else s
theorem setS_no {α : Type} {s : St α} {a g : Int} {v : α} (h : lookS s.pl a g ≠ 0) : setS s a g v = s := by unfold setS; rw [if_neg h]
theorem setS_yes {α : Type} {s : St α} {a g : Int} {v : α} {x : α × Nat × Bool} (h : lookS s.pl a g = 0) (hx : s.pl[a.toNat]? = some x) : setS s a g v = ⟨s.most, s.pl.set a.toNat (v, x.2.1, true), s.back⟩ := by unfold setS livS; rw [if_pos h, hx]
theorem snoc_or {α : Type} (l : List α) : l = [] ∨ ∃ m x, l = m ++ [x] := by
  rcases List.eq_nil_or_concat l with h | ⟨m, x, h⟩
  · exact Or.inl h
  · exact Or.inr ⟨m, x, by simpa using h⟩
theorem ret_ib {a b : Int} {c d : Bool} (h : a = b) (h' : c = d) : Ending.returned (.tuple #[.int .i64 a, .bool c]) = .returned (.tuple #[.int .i64 b, .bool d]) := by rw [h, h']
theorem ret_int {k : IntKind} {a b : Int} (h : a = b) : Ending.returned (.int k a) = .returned (.int k b) := by rw [h]
theorem ret_pi {p : Option Addr} {a b : Int} (h : a = b) : Ending.returned (.tuple #[.pointer p, .int .i64 a]) = .returned (.tuple #[.pointer p, .int .i64 b]) := by rw [h]
end Go.Proofs.Ytliabapopgeieaa
