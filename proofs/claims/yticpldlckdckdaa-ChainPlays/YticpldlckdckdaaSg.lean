/- Rings of cells that were put one behind the other. -/
import Derived.Test.YticpldlckdckdaaKn
namespace Go.Proofs.Yticpldlckdckdaa
open Go.ChangeShapes Go.WideShapes Go.ChangeAt Go.RowKit

/-- the cells from a up to b are a ring, if there are any -/
def Sg (nx : Nat → Nat) (a b : Nat) : Prop := a < b → Rnd nx (List.range' a (b - a))

section
variable {k : Nat} {nx pv : Nat → Nat}
theorem Rnd.fresh {l : List Nat} (h : Rnd nx l) (hk : k ∉ l) : Rnd (nxt nx k) l :=
  h.congr fun x hx => by have : x ≠ k := fun e => hk (e ▸ hx); simp [nxt, this]
theorem Sg.one {a b : Nat} (h : Sg nx a b) (hb : b ≤ k) : Sg (nxt nx k) a b := fun hab =>
  (h hab).fresh fun e => by rw [List.mem_range'] at e; obtain ⟨i, h1, h2⟩ := e; omega
theorem Sg.here : Sg (nxt nx k) k (k + 1) := fun _ => by
  rw [show k + 1 - k = 1 by omega]
  exact Rnd.one (by simp [nxt])
theorem Sg.put {a i : Nat} (hI : Inv (i + 1) nx pv) (h : Sg nx a i) (ha : a < i) (hi : nx i = i) : Sg (swN nx pv (i - 1) i) a (i + 1) := fun _ => by
  have h0 := h ha
  have e1 : List.range' a (i - a) = List.range' a (i - 1 - a) ++ [i - 1] := by
    have := List.range'_concat (step := 1) (s := a) (n := i - 1 - a)
    rw [show i - a = i - 1 - a + 1 by omega, this]
    congr 2; omega
  rw [e1] at h0
  have h1 := h0.turn
  have h2 := Rnd.join hI (c := i - 1) (d := i) (tc := List.range' a (i - 1 - a)) (td := []) (by intro x hx; simp at hx; omega) h1 (Rnd.one hi) (by
    intro x hx
    simp only [List.mem_cons, List.not_mem_nil, or_false, List.mem_range'] at hx ⊢
    rcases hx with hx | ⟨j, h3, h4⟩ <;> omega)
  have h3 := Rnd.turn (l := [i - 1, i]) (m := List.range' a (i - 1 - a)) (by simpa using h2)
  have e2 : List.range' a (i + 1 - a) = List.range' a (i - 1 - a) ++ [i - 1, i] := by
    have q1 := List.range'_concat (step := 1) (s := a) (n := i - a)
    rw [show i + 1 - a = i - a + 1 by omega, q1, e1, List.append_assoc]
    simp; omega
  rw [e2]; exact h3
theorem Sg.keep {a b i : Nat} (hI : Inv (i + 1) nx pv) (h : Sg nx a b) (hb : b + 1 ≤ i) : Sg (swN nx pv (i - 1) i) a b := fun hab =>
  Rnd.other hI (by omega) (h hab) (fun e => by rw [List.mem_range'] at e; obtain ⟨j, h1, h2⟩ := e; omega) (fun e => by rw [List.mem_range'] at e; obtain ⟨j, h1, h2⟩ := e; omega)
theorem Sg.at {a b p : Nat} (h : Sg nx a b) (h1 : a ≤ p) (h2 : p < b) : Rnd nx (p :: (List.range' (p + 1) (b - p - 1) ++ List.range' a (p - a))) := by
  have h0 := h (by omega)
  have e : List.range' a (b - a) = List.range' a (p - a) ++ p :: List.range' (p + 1) (b - p - 1) := by
    have q : p :: List.range' (p + 1) (b - p - 1) = List.range' p (b - p) := by
      rw [show b - p = b - p - 1 + 1 by omega, List.range'_succ]; rfl
    rw [q]
    have := List.range'_append (step := 1) (s := a) (m := p - a) (n := b - p)
    rw [show b - a = p - a + (b - p) by omega, ← this]
    congr 2; omega
  rw [e] at h0
  simpa using h0.turn
end
end Go.Proofs.Yticpldlckdckdaa
