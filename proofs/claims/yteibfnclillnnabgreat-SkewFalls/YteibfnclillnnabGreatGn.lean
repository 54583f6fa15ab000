/- Several texts in one. -/
import Derived.Test.YteibfnclillnnabGreatNo
import Derived.Test.YteibfnclillnnabGreatGj
/- The laws' tree and shape: what they want of a heap. -/
namespace Go.Proofs.YteibfnclillnnabGreat
open Go.ChangeShapes Go.WideShapes Go.ChangeAt Go.RowKit
open Tr

/-- an item that is held, at its first place -/
def Held (s : St) (L : List (Nat × Int × Int)) (i a : Nat) (x : Nat × Int × Int) : Prop := L[a]? = some x ∧ x.1 = i ∧ (∀ b y, b < a → L[b]? = some y → y.1 ≠ x.1) ∧ hasS s i 7 = x.2.1 ∧ hasS s i 8 = x.2.2
theorem befH_held {s : St} {L : List (Nat × Int × Int)} {i j a b : Nat} {x y : Nat × Int × Int} (h : Held s L i a x) (k : Held s L j b y) : befH x y = befF (hasS s) i j := by
  obtain ⟨_, h1, _, h2, h3⟩ := h
  obtain ⟨_, k1, _, k2, k3⟩ := k
  unfold befH befF
  rw [h2, h3, k2, k3, h1, k1]
theorem held_of {s : St} {t : List Bn} {L : List (Nat × Int × Int)} (h : Hh s t L) : ∀ i ∈ its t, ∃ a x, Held s L i a x := fun i hi => by
  have hn := hh_nodup h
  obtain ⟨x, hx, hxi⟩ := List.mem_map.1 (h.pm.mem_iff.2 hi)
  obtain ⟨a, ha⟩ := List.mem_iff_getElem?.1 hx
  refine ⟨a, x, ha, hxi, fun b y hb hy e => ?_, by rw [← hxi]; exact (h.en x hx).1, by rw [← hxi]; exact (h.en x hx).2⟩
  have h1 := (List.getElem?_eq_some_iff.1 ha)
  have h2 := (List.getElem?_eq_some_iff.1 hy)
  have := (List.pairwise_iff_getElem.1 hn) b a (by simpa using h2.1) (by simpa using h1.1) hb
  simp only [List.getElem_map] at this
  rw [h1.2, h2.2] at this
  exact this e
/-- what must be true of a tree for the walk; u: what is above it -/
structure Wn (s : St) (L : List (Nat × Int × Int)) (b : Bn) (u : Int) : Prop where
  vn : Vn (LS s) (hasS s) b
  up : cellS s (b.n : Int) 0 = u
  left : hasS s b.n 2 = -1
  kd : Kd b.k
  od : Hu (befF (hasS s)) b.i b.k
  it : ∀ i ∈ b.items, ∃ a x, Held s L i a x
/-- what must be true of children that are yet to be gone through -/
structure Wr (s : St) (L : List (Nat × Int × Int)) (n i : Nat) (t : Tr) : Prop where
  vw : Vw (LS s) (hasS s) (n : Int) t
  ln : LS s n = true
  kd : Kd t
  od : Hu (befF (hasS s)) i t
  it : ∀ j ∈ t.items, ∃ a x, Held s L j a x
theorem Wn.kids {s : St} {L : List (Nat × Int × Int)} {b : Bn} {u : Int} (h : Wn s L b u) : Wr s L b.n b.i b.k := ⟨h.vn.kids, h.vn.ln, h.kd, h.od, fun j hj => h.it j (by simp [Bn.items, hj])⟩
theorem Wr.parts {s : St} {L : List (Nat × Int × Int)} {n i c ci : Nat} {k r : Tr} (ok : Ok s) (h : Wr s L n i (nd c ci k r)) : Wn s L ⟨c, ci, k⟩ (n : Int) ∧ Wr s L n i r ∧ befF (hasS s) ci i = false ∧ cellS s (c : Int) 3 = r.root := by
  obtain ⟨⟨h1, h2, h3, h4, h5, h6, h7, h8, h9⟩, hk, hr⟩ := h.vw
  refine ⟨⟨⟨h1, h2, h4, h7, h8, h9, hk⟩, cell_nat (j := 0) ok h1 (by decide) h3 h.ln, h5, h.kd.2.1, h.od.2.1, fun j hj => h.it j (by simp only [Bn.items, List.mem_cons] at hj; simp only [items, List.mem_cons, List.mem_append]; rcases hj with hj | hj; exact Or.inl hj; exact Or.inr (Or.inl hj))⟩, ⟨hr, h.ln, h.kd.2.2, h.od.2.2, fun j hj => h.it j (by simp [items, hj])⟩, h.od.1, root_val (j := 3) ok h1 (by decide) h6 hr⟩
theorem wn_of {s : St} {t : List Bn} {L : List (Nat × Int × Int)} (h : Hh s t L) {b : Bn} (hb : b ∈ t) : Wn s L b (-1) := by
  obtain ⟨v, k, o⟩ := h.gd.vb b hb
  exact ⟨v.vn, cell_neg (j := 0) v.ln (by decide) v.up, v.left, k, o, fun i hi => held_of h i (List.mem_flatMap.2 ⟨b, hb, hi⟩)⟩
end Go.Proofs.YteibfnclillnnabGreat

/- How many nodes a tree has. -/
namespace Go.Proofs.YteibfnclillnnabGreat
open Go.ChangeShapes Go.WideShapes Go.ChangeAt Go.RowKit
open Tr

theorem kd_big : ∀ k : Tr, Kd k → k.size + 2 ≤ 2 * 2 ^ rkf k ∧ (fstk k → k.size + 3 ≤ 2 * 2 ^ rkf k)
  | lf, _ => ⟨by simp [Tr.size, rkf], fun h => h.elim⟩
  | nd n i k r, h => by
    obtain ⟨a1, _⟩ := kd_big k h.2.1
    obtain ⟨b1, b2⟩ := kd_big r h.2.2
    simp only [Tr.size]
    rcases h.1 with e | ⟨_, e1, e2, e3⟩
    · rw [rkf_link e, Nat.pow_succ]
      rw [e] at a1
      exact ⟨by omega, fun _ => by omega⟩
    · rw [rkf_single e1 e2, leaf_lf e1]
      have := b2 e3
      refine ⟨by simp only [Tr.size]; omega, fun e => ?_⟩
      have e4 : rkf lf = rkf r := e
      have := rkf_pos e2
      simp only [rkf] at e4
      omega
theorem kd_less {c ci : Nat} {k r : Tr} (h : Kd (nd c ci k r)) : rkf k < rkf (nd c ci k r) ∧ rkf r ≤ rkf (nd c ci k r) := by
  rcases h.1 with e | ⟨_, e1, e2, _⟩
  · rw [rkf_link e]; omega
  · have := rkf_pos e2
    rw [rkf_single e1 e2, leaf_lf e1]
    exact ⟨by simp only [rkf]; omega, Nat.le_refl _⟩
theorem kd_nine {k : Tr} (h : Kd k) (hs : k.size + 1 ≤ 1000) : rkf k ≤ 9 := by
  have h3 := kd_size k h
  rcases Nat.lt_or_ge 9 (rkf k) with q | q
  · have h4 : 2 ^ 10 ≤ 2 ^ rkf k := Nat.pow_le_pow_right (by omega) q
    omega
  · exact q
/-- what the law asks of a tree's size -/
theorem sh_pow : ∀ r : Nat, r ≤ 9 → wrap64 ((2 : Int) ^ r) = ((2 ^ r : Nat) : Int) ∧ wrap64 ((2 : Int) * 2 ^ r) = ((2 * 2 ^ r : Nat) : Int) ∧ 2 ^ r ≤ 512 := by
  have h : ∀ r : Nat, r < 10 → wrap64 ((2 : Int) ^ r) = ((2 ^ r : Nat) : Int) ∧ wrap64 ((2 : Int) * 2 ^ r) = ((2 * 2 ^ r : Nat) : Int) ∧ 2 ^ r ≤ 512 := by unfold wrap64; decide +kernel
  exact fun r hr => h r (by omega)

theorem sh_facts {r n z : Nat} (hr : r ≤ 9) (h1 : 2 ^ r ≤ z) (h2 : z + 1 ≤ 2 * 2 ^ r) (hn : z ≤ n) : ∃ p q : Nat, wrap64 ((2 : Int) ^ r) = (p : Int) ∧ wrap64 ((2 : Int) * 2 ^ r) = (q : Int) ∧ q ≤ 1024 ∧ z ≤ n ∧ p ≤ z ∧ (z : Int) ≤ (q : Int) - 1 := by
  obtain ⟨a, b, c⟩ := sh_pow r hr
  have hq : (z : Int) + 1 ≤ ((2 * 2 ^ r : Nat) : Int) := by exact_mod_cast h2
  exact ⟨2 ^ r, 2 * 2 ^ r, a, b, by omega, hn, h1, by omega⟩

end Go.Proofs.YteibfnclillnnabGreat
