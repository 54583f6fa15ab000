/- The laws' tree and shape: what they want of a heap. -/
import Derived.Test.YtbfbebghhclmmabGreatNo
import Derived.Test.YtbfbebghhclmmabGreatGj
namespace Go.Proofs.YtbfbebghhclmmabGreat
open Go.ChangeShapes Go.WideShapes Go.ChangeAt Go.RowKit
open Tr

/-- an item that is held, at its first place -/
def Held (s : St) (L : List (Nat × Int × Int)) (i a : Nat) (x : Nat × Int × Int) : Prop := L[a]? = some x ∧ x.1 = i ∧ (∀ b y, b < a → L[b]? = some y → y.1 ≠ x.1) ∧ hasS s i 7 = x.2.1 ∧ hasS s i 8 = x.2.2
theorem befH_held {s : St} {L : List (Nat × Int × Int)} {i j a b : Nat} {x y : Nat × Int × Int} (h : Held s L i a x) (k : Held s L j b y) : befH x y = befF (hasS s) i j := by
  obtain ⟨_, h1, _, h2, h3⟩ := h
  obtain ⟨_, k1, _, k2, k3⟩ := k
  unfold befH befF
  rw [h2, h3, k2, k3, h1, k1]
theorem held_of {s : St} {t : List Bn} {L : List (Nat × Int × Int)} (h : Hh s t L) : ∀ i ∈ its t, ∃ a x, Held s L i a x := fun i hi => by
  have hn := hh_nodup h
  obtain ⟨x, hx, hxi⟩ := List.mem_map.1 (h.pm.mem_iff.2 hi)
  obtain ⟨a, ha⟩ := List.mem_iff_getElem?.1 hx
  refine ⟨a, x, ha, hxi, fun b y hb hy e => ?_, by rw [← hxi]; exact (h.en x hx).1, by rw [← hxi]; exact (h.en x hx).2⟩
  have h1 := (List.getElem?_eq_some_iff.1 ha)
  have h2 := (List.getElem?_eq_some_iff.1 hy)
  have := (List.pairwise_iff_getElem.1 hn) b a (by simpa using h2.1) (by simpa using h1.1) hb
  simp only [List.getElem_map] at this
  rw [h1.2, h2.2] at this
  exact this e
/-- what must be true of a tree for the walk; u: what is above it -/
structure Wn (s : St) (L : List (Nat × Int × Int)) (b : Bn) (u : Int) : Prop where
  vn : Vn (LS s) (hasS s) b
  up : cellS s (b.n : Int) 0 = u
  left : hasS s b.n 2 = -1
  kd : Kd b.k
  od : Hu (befF (hasS s)) b.i b.k
  it : ∀ i ∈ b.items, ∃ a x, Held s L i a x
/-- what must be true of children that are yet to be gone through -/
structure Wr (s : St) (L : List (Nat × Int × Int)) (n i : Nat) (t : Tr) : Prop where
  vw : Vw (LS s) (hasS s) (n : Int) t
  ln : LS s n = true
  kd : Kd t
  od : Hu (befF (hasS s)) i t
  it : ∀ j ∈ t.items, ∃ a x, Held s L j a x
theorem Wn.kids {s : St} {L : List (Nat × Int × Int)} {b : Bn} {u : Int} (h : Wn s L b u) : Wr s L b.n b.i b.k := ⟨h.vn.kids, h.vn.ln, h.kd, h.od, fun j hj => h.it j (by simp [Bn.items, hj])⟩
theorem Wr.parts {s : St} {L : List (Nat × Int × Int)} {n i c ci : Nat} {k r : Tr} (ok : Ok s) (h : Wr s L n i (nd c ci k r)) : Wn s L ⟨c, ci, k⟩ (n : Int) ∧ Wr s L n i r ∧ befF (hasS s) ci i = false ∧ cellS s (c : Int) 3 = r.root := by
  obtain ⟨⟨h1, h2, h3, h4, h5, h6, h7, h8, h9⟩, hk, hr⟩ := h.vw
  refine ⟨⟨⟨h1, h2, h4, h7, h8, h9, hk⟩, cell_nat (j := 0) ok h1 (by decide) h3 h.ln, h5, h.kd.2.1, h.od.2.1, fun j hj => h.it j (by simp only [Bn.items, List.mem_cons] at hj; simp only [items, List.mem_cons, List.mem_append]; rcases hj with hj | hj; exact Or.inl hj; exact Or.inr (Or.inl hj))⟩, ⟨hr, h.ln, h.kd.2.2, h.od.2.2, fun j hj => h.it j (by simp [items, hj])⟩, h.od.1, root_val (j := 3) ok h1 (by decide) h6 hr⟩
theorem wn_of {s : St} {t : List Bn} {L : List (Nat × Int × Int)} (h : Hh s t L) {b : Bn} (hb : b ∈ t) : Wn s L b (-1) := by
  obtain ⟨v, k, o⟩ := h.gd.vb b hb
  exact ⟨v.vn, cell_neg (j := 0) v.ln (by decide) v.up, v.left, k, o, fun i hi => held_of h i (List.mem_flatMap.2 ⟨b, hb, hi⟩)⟩
end Go.Proofs.YtbfbebghhclmmabGreat
