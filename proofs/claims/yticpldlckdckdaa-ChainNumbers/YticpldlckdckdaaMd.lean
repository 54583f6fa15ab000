/- Between the call of a round of play and the comparing: what is alike. -/
import Derived.Test.YticpldlckdckdaaAk
namespace Go.Proofs.Yticpldlckdckdaa
open Go.ChangeShapes Go.WideShapes Go.ChangeAt Go.RowKit

/-- behind the call: the arena, the rings as far as they are stored, the ring that is to be stored yet -/
def Mid (w wx : World) (G : Nat → Prop) (pa pm rb i t : Nat) (nv : Value) : Prop :=
  ∃ (nx pv : Nat → Nat) (t' : Nat) (vs : List Value) (rg : Nat → List Nat) (nl : List Nat), (∃ a cap, nv = .slice a nl.length cap) ∧ t ≤ t' ∧ t' ≤ t + 12 ∧ Hr w wx G pa pm i i nx pv t' ∧ Lay w wx G rb i vs rg ∧ Lies (Out w G rb) wx nv nl ∧ (∀ u ∈ nl, u < i) ∧ Rgs i nx (fun k => if k ∈ nl then nl else rg k)

section
variable {P : Nat → Prop} {w : World} {b off n cap c : Nat} {tl : List Nat}
theorem Lies.bounds (h : Lies P w (.slice (some ⟨b, off, none⟩) n cap) (c :: tl)) : tl.length + 1 = n ∧ n ≤ cap ∧ cap ≤ maxLen ∧ b < w.heap.size ∧ P b := by
  rcases h with ⟨e, _⟩ | ⟨b', off', cap', e, h1, h2, h3, h4, h5⟩
  · cases e
  · cases e; exact ⟨by simp, h1, h2, h3, h4⟩
theorem Lies.tail (h : Lies P w (.slice (some ⟨b, off, none⟩) n cap) (c :: tl)) : Lies P w (.slice (some ⟨b, off + 1, none⟩) (n - 1) (cap - 1)) tl := by
  rcases h with ⟨e, _⟩ | ⟨b', off', cap', e, h1, h2, h3, h4, h5⟩
  · cases e
  · cases e
    refine Or.inr ⟨b, off + 1, cap - 1, by simp, by simp at h1; omega, by omega, h3, h4, fun i x hx => ?_⟩
    have := h5 (i + 1) x (by simpa using hx)
    rwa [show off + 1 + i = off + (i + 1) by omega]
theorem Lies.bare (h : Lies P w (.slice (some ⟨b, off, none⟩) n 1) (c :: tl)) : tl = [] ∧ n = 1 ∧ Lies P w (.slice (some ⟨b, off, none⟩) 0 0) tl := by
  obtain ⟨h1, h2, h3, h4, h5⟩ := h.bounds
  have e : tl = [] := List.eq_nil_of_length_eq_zero (by omega)
  subst e
  refine ⟨rfl, by simp at h1; omega, Or.inr ⟨b, off, 0, rfl, by simp, by simp, h4, h5, fun i x hx => by simp at hx⟩⟩
theorem Lies.second {y : Nat} (h : Lies P w (.slice (some ⟨b, off, none⟩) n cap) (c :: y :: tl)) : w.cell? ⟨b, off + 1, none⟩ = some (.int .i64 (y : Int)) := by
  rcases h with ⟨e, _⟩ | ⟨b', off', cap', e, h1, h2, h3, h4, h5⟩
  · cases e
  · cases e; exact h5 1 y rfl
theorem Lies.at {i x : Nat} {l : List Nat} (h : Lies P w (.slice (some ⟨b, off, none⟩) n cap) l) (hx : l[i]? = some x) : w.cell? ⟨b, off + i, none⟩ = some (.int .i64 (x : Int)) := by
  rcases h with ⟨e, _⟩ | ⟨b', off', cap', e, h1, h2, h3, h4, h5⟩
  · cases e
  · cases e; exact h5 i x hx
end

section
variable {n : Nat} {nx pv : Nat → Nat} {rg : Nat → List Nat} {c d : Nat} {tc td : List Nat}
/-- what Out tells is the second one -/
theorem Tn.told1 (t : Tn n nx rg c tc) (h : tc = []) : (if nx c = c then -1 else (nx c : Int)) = -1 := by
  subst h; simp [t.rnd.alone]
theorem Tn.told2 {y : Nat} {r : List Nat} (t : Tn n nx rg c tc) (h : tc = y :: r) : (if nx c = c then -1 else (nx c : Int)) = (y : Int) := by
  subst h; have := t.rnd.more; simp [this.1, this.2]
end
theorem take_if {l : List Nat} {m y : Nat} (h : l[m]? = some y) (A : List Nat) (B : Nat → List Nat) (k : Nat) : (if k = y then A else if k ∈ l.take m then A else B k) = if k ∈ l.take (m + 1) then A else B k := by
  rw [List.take_add_one, h]
  by_cases e : k = y
  · simp [e]
  · simp [e]
end Go.Proofs.Yticpldlckdckdaa
