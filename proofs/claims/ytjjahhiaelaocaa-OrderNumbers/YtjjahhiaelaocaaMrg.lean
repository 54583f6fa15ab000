/- Plain facts on merging in place: where the two stretches are cut so that a rotation parts them into a lower and an upper half. -/
import Derived.Test.YtjjahhiaelaocaaSymB
namespace Go.Proofs.Ytjjahhiaelaocaa
open Go.RowKit

theorem from_id {m i j : Nat} (hi : i ≤ m) (h : i = 0 ∨ j = 0) (q : Nat) : from' m i j q = q := by
  unfold from'
  repeat' split
  all_goals omega

/-- the cut: s in the first stretch, e in the second; what is ahead of s is not after what stands from e on, what stands from s on is not before what stands ahead of e -/
structure Cut (l : List (Int × Int)) (a m b mid s e : Nat) : Prop where
  sa : SortedOn l a m
  sb : SortedOn l m b
  as' : a ≤ s
  sm : s ≤ m
  smid : s ≤ mid
  me : m ≤ e
  eb : e ≤ b
  mide : mid ≤ e
  sum : e + s = mid + m
  lo : a < s → e < b → befE (ent l e) (ent l (s - 1)) = false
  hi : s < m → m < e → befE (ent l (e - 1)) (ent l s) = true

variable {l l1 l2 l3 : List (Int × Int)} {a m b mid s e : Nat}

/-- four stretches behind the rotation -/
theorem Cut.parts (h : Cut l a m b mid s e) (hr : ∀ q, ent l1 q = ent l (from' m (m - s) (e - m) q)) :
    (∀ q, q < s → ent l1 q = ent l q) ∧ (∀ q, s ≤ q → q < mid → ent l1 q = ent l (q + (m - s))) ∧ (∀ q, mid ≤ q → q < e → ent l1 q = ent l (q - (e - m))) ∧ (∀ q, e ≤ q → ent l1 q = ent l q) := by
  obtain ⟨-, -, h1, h2, h3, h4, h5, h5', h6, -, -⟩ := h
  refine ⟨fun q hq => ?_, fun q hq hq' => ?_, fun q hq hq' => ?_, fun q hq => ?_⟩ <;>
  · rw [hr]
    congr 1
    unfold from'
    repeat' split
    all_goals omega

theorem Cut.left (h : Cut l a m b mid s e) (hr : ∀ q, ent l1 q = ent l (from' m (m - s) (e - m) q)) : SortedOn l1 a s ∧ SortedOn l1 s mid := by
  obtain ⟨p1, p2, p3, p4⟩ := h.parts hr
  obtain ⟨sa, sb, h1, h2, h3, h4, h5, h5', h6, -, -⟩ := h
  refine ⟨fun i j hi hij hj => ?_, fun i j hi hij hj => ?_⟩
  · rw [p1 i (by omega), p1 j (by omega)]; exact sa i j hi hij (by omega)
  · rw [p2 i (by omega) (by omega), p2 j (by omega) (by omega)]; exact sb _ _ (by omega) (by omega) (by omega)
theorem Cut.right (h : Cut l a m b mid s e) (hr : ∀ q, ent l1 q = ent l (from' m (m - s) (e - m) q)) : SortedOn l1 mid e ∧ SortedOn l1 e b := by
  obtain ⟨p1, p2, p3, p4⟩ := h.parts hr
  obtain ⟨sa, sb, h1, h2, h3, h4, h5, h5', h6, -, -⟩ := h
  refine ⟨fun i j hi hij hj => ?_, fun i j hi hij hj => ?_⟩
  · rw [p3 i (by omega) (by omega), p3 j (by omega) (by omega)]; exact sa _ _ (by omega) (by omega) (by omega)
  · rw [p4 i (by omega), p4 j (by omega)]; exact sb _ _ (by omega) (by omega) (by omega)
/-- nothing of the upper half is before anything of the lower -/
theorem Cut.across (h : Cut l a m b mid s e) (hr : ∀ q, ent l1 q = ent l (from' m (m - s) (e - m) q)) (p q : Nat) (hp : a ≤ p) (hp' : p < mid) (hq : mid ≤ q) (hq' : q < b) : befE (ent l1 q) (ent l1 p) = false := by
  obtain ⟨p1, p2, p3, p4⟩ := h.parts hr
  obtain ⟨sa, sb, h1, h2, h3, h4, h5, h5', h6, lo, hi⟩ := h
  by_cases c1 : p < s
  · rw [p1 p c1]
    by_cases c2 : q < e
    · rw [p3 q hq c2]; exact sa _ _ hp (by omega) (by omega)
    · rw [p4 q (by omega)]
      have k := lo (by omega) (by omega)
      have k1 : befE (ent l (s - 1)) (ent l p) = false := by
        by_cases c : p = s - 1
        · rw [c]; exact befE_irrefl _
        · exact sa _ _ hp (by omega) (by omega)
      have k2 : befE (ent l q) (ent l e) = false := by
        by_cases c : q = e
        · rw [c]; exact befE_irrefl _
        · exact sb _ _ (by omega) (by omega) (by omega)
      exact befE_le_trans (befE_le_trans k1 k) k2
  · rw [p2 p (by omega) hp']
    by_cases c2 : q < e
    · rw [p3 q hq c2]
      have k := befE_asymm (hi (by omega) (by omega))
      have k1 : befE (ent l (e - 1)) (ent l (p + (m - s))) = false := by
        by_cases c : p + (m - s) = e - 1
        · rw [c]; exact befE_irrefl _
        · exact sb _ _ (by omega) (by omega) (by omega)
      have k2 : befE (ent l (q - (e - m))) (ent l s) = false := by
        by_cases c : q - (e - m) = s
        · rw [c]; exact befE_irrefl _
        · exact sa _ _ (by omega) (by omega) (by omega)
      exact befE_le_trans (befE_le_trans k1 k) k2
    · rw [p4 q (by omega)]; exact sb _ _ (by omega) (by omega) (by omega)

theorem sorted_join {x y z : Nat} (h : x = y ∨ y = z) (h1 : SortedOn l x y) (h2 : SortedOn l y z) : SortedOn l x z := by
  rcases h with rfl | rfl
  · exact h2
  · exact h1

theorem Cut.fin (h : Cut l a m b mid s e) (hr : ∀ q, ent l1 q = ent l (from' m (m - s) (e - m) q)) (w2 : Within a mid l1 l2) (s2 : SortedOn l2 a mid) (w3 : Within mid b l2 l3) (s3 : SortedOn l3 mid b) : SortedOn l3 a b := by
  intro p q hp hpq hq
  by_cases c1 : q < mid
  · rw [w3.out p (by omega), w3.out q (by omega)]; exact s2 p q hp hpq c1
  · by_cases c2 : mid ≤ p
    · exact s3 p q c2 hpq hq
    · obtain ⟨q', q1, q2, e1⟩ := w3.src q (by omega) hq
      obtain ⟨p', r1, r2, e2⟩ := w2.src p hp (by omega)
      rw [e1, w2.out q' (by omega), w3.out p (by omega), e2]
      exact h.across hr p' q' r1 r2 q1 q2
end Go.Proofs.Ytjjahhiaelaocaa
