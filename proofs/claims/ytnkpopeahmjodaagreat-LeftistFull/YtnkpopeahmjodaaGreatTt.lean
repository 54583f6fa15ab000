/- Leftist trees, as plain data, and how they lie in an arena. -/
import Derived.Test.YtnkpopeahmjodaaGreatLk
namespace Go.Proofs.YtnkpopeahmjodaaGreat
open Go.ChangeShapes Go.WideShapes Go.ChangeAt Go.RowKit

/-- a tree: a node's cell, its item's, what is to its left and right -/
inductive Tr where
  | lf : Tr
  | nd (n i : Nat) (l r : Tr) : Tr

namespace Tr
def root : Tr → Int
  | lf => -1
  | nd n _ _ _ => n
def rank : Tr → Nat
  | lf => 0
  | nd _ _ _ r => r.rank + 1
def size : Tr → Nat
  | lf => 0
  | nd _ _ l r => l.size + r.size + 1
def nodes : Tr → List Nat
  | lf => []
  | nd n _ l r => n :: (l.nodes ++ r.nodes)
def items : Tr → List Nat
  | lf => []
  | nd _ i l r => i :: (l.items ++ r.items)
def cells : Tr → List Nat
  | lf => []
  | nd n i l r => n :: i :: (l.cells ++ r.cells)
/-- the one of greater Rank is to the left -/
def Lft : Tr → Prop
  | lf => True
  | nd _ _ l r => r.rank ≤ l.rank ∧ l.Lft ∧ r.Lft
/-- no item is before the one above it -/
def Od (lt : Nat → Nat → Bool) : Tr → Prop
  | lf => True
  | nd _ i l r => (∀ j ∈ l.items ++ r.items, lt j i = false) ∧ l.Od lt ∧ r.Od lt
/-- two children in their order -/
def mk (n i : Nat) (l r : Tr) : Tr := if l.rank < r.rank then nd n i r l else nd n i l r
/-- meld, at most so many levels down -/
def ml (lt : Nat → Nat → Bool) : Nat → Tr → Tr → Tr
  | 0, a, _ => a
  | _ + 1, a, lf => a
  | _ + 1, lf, b => b
  | k + 1, nd n i l r, nd m j l' r' => if lt j i = true then mk m j l' (ml lt k r' (nd n i l r)) else mk n i l (ml lt k r (nd m j l' r'))
end Tr
open Tr

theorem size_items : ∀ t : Tr, t.items.length = t.size
  | lf => rfl
  | nd n i l r => by simp [items, size, size_items l, size_items r]
theorem size_nodes : ∀ t : Tr, t.nodes.length = t.size
  | lf => rfl
  | nd n i l r => by simp [nodes, size, size_nodes l, size_nodes r]
theorem cells_perm : ∀ t : Tr, t.cells.Perm (t.nodes ++ t.items)
  | lf => .nil
  | nd n i l r => by
    have h := (cells_perm l).append (cells_perm r)
    simp only [cells, nodes, items, List.cons_append]
    refine .cons n ?_
    have e : (i :: (l.cells ++ r.cells)).Perm (i :: ((l.nodes ++ l.items) ++ (r.nodes ++ r.items))) := .cons i h
    refine e.trans ?_
    rw [List.perm_iff_count]
    intro a
    simp only [List.count_cons, List.count_append]
    omega
theorem mem_cells {t : Tr} {c : Nat} : c ∈ t.cells ↔ c ∈ t.nodes ∨ c ∈ t.items := by rw [(cells_perm t).mem_iff, List.mem_append]
/-- a tree of that Rank has so many nodes -/
theorem rank_size : ∀ t : Tr, t.Lft → 2 ^ t.rank ≤ t.size + 1
  | lf, _ => by simp [rank, size]
  | nd n i l r, h => by
    obtain ⟨h1, h2, h3⟩ := h
    have a := rank_size l h2
    have b := rank_size r h3
    have c : 2 ^ r.rank ≤ 2 ^ l.rank := Nat.pow_le_pow_right (by decide) h1
    simp only [rank, size]
    rw [Nat.pow_succ]
    omega

section mk
variable {lt : Nat → Nat → Bool} {n i : Nat} {l r : Tr}
theorem mk_root : (mk n i l r).root = n := by unfold mk; split <;> rfl
theorem mk_cells : (mk n i l r).cells.Perm (n :: i :: (l.cells ++ r.cells)) := by
  unfold mk; split
  · exact .cons _ (.cons _ List.perm_append_comm)
  · exact .refl _
theorem mk_items : (mk n i l r).items.Perm (i :: (l.items ++ r.items)) := by
  unfold mk; split
  · exact .cons _ List.perm_append_comm
  · exact .refl _
theorem mk_nodes : (mk n i l r).nodes.Perm (n :: (l.nodes ++ r.nodes)) := by
  unfold mk; split
  · exact .cons _ List.perm_append_comm
  · exact .refl _
theorem mk_lft (hl : l.Lft) (hr : r.Lft) : (mk n i l r).Lft := by
  unfold mk; split
  · exact ⟨by omega, hr, hl⟩
  · exact ⟨by omega, hl, hr⟩
theorem mk_od (h : ∀ j ∈ l.items ++ r.items, lt j i = false) (hl : l.Od lt) (hr : r.Od lt) : (mk n i l r).Od lt := by
  unfold mk; split
  · exact ⟨fun j hj => h j (by rw [List.mem_append] at hj ⊢; exact hj.symm), hr, hl⟩
  · exact ⟨h, hl, hr⟩
end mk

/-- what 'before' must be: of two one is not before; not before is passed on -/
structure Tot (lt : Nat → Nat → Bool) : Prop where
  one : ∀ a b, lt a b = true → lt b a = false
  le : ∀ a b c, lt b a = false → lt c b = false → lt c a = false

section ml
variable {lt : Nat → Nat → Bool}
theorem ml_items : ∀ (k : Nat) (a b : Tr), a.rank + b.rank < k → (ml lt k a b).items.Perm (a.items ++ b.items)
  | 0, a, b, h => by omega
  | k + 1, a, lf, h => by cases a <;> simp [ml, items]
  | k + 1, lf, nd n i l r, h => by simp [ml, items]
  | k + 1, nd n i l r, nd m j l' r', h => by
    simp only [rank] at h
    unfold ml
    split
    · refine mk_items.trans ?_
      have ih := ml_items k r' (nd n i l r) (by simp only [rank]; omega)
      rw [List.perm_iff_count] at ih ⊢
      intro c
      have := ih c
      simp only [items, List.count_cons, List.count_append] at this ⊢
      omega
    · refine mk_items.trans ?_
      have ih := ml_items k r (nd m j l' r') (by simp only [rank]; omega)
      rw [List.perm_iff_count] at ih ⊢
      intro c
      have := ih c
      simp only [items, List.count_cons, List.count_append] at this ⊢
      omega
theorem ml_cells : ∀ (k : Nat) (a b : Tr), a.rank + b.rank < k → (ml lt k a b).cells.Perm (a.cells ++ b.cells)
  | 0, a, b, h => by omega
  | k + 1, a, lf, h => by cases a <;> simp [ml, cells]
  | k + 1, lf, nd n i l r, h => by simp [ml, cells]
  | k + 1, nd n i l r, nd m j l' r', h => by
    simp only [rank] at h
    unfold ml
    split
    · refine mk_cells.trans ?_
      have ih := ml_cells k r' (nd n i l r) (by simp only [rank]; omega)
      rw [List.perm_iff_count] at ih ⊢
      intro c
      have := ih c
      simp only [cells, List.count_cons, List.count_append] at this ⊢
      omega
    · refine mk_cells.trans ?_
      have ih := ml_cells k r (nd m j l' r') (by simp only [rank]; omega)
      rw [List.perm_iff_count] at ih ⊢
      intro c
      have := ih c
      simp only [cells, List.count_cons, List.count_append] at this ⊢
      omega
theorem ml_nodes : ∀ (k : Nat) (a b : Tr), a.rank + b.rank < k → (ml lt k a b).nodes.Perm (a.nodes ++ b.nodes)
  | 0, a, b, h => by omega
  | k + 1, a, lf, h => by cases a <;> simp [ml, nodes]
  | k + 1, lf, nd n i l r, h => by simp [ml, nodes]
  | k + 1, nd n i l r, nd m j l' r', h => by
    simp only [rank] at h
    unfold ml
    split
    · refine mk_nodes.trans ?_
      have ih := ml_nodes k r' (nd n i l r) (by simp only [rank]; omega)
      rw [List.perm_iff_count] at ih ⊢
      intro c
      have := ih c
      simp only [nodes, List.count_cons, List.count_append] at this ⊢
      omega
    · refine mk_nodes.trans ?_
      have ih := ml_nodes k r (nd m j l' r') (by simp only [rank]; omega)
      rw [List.perm_iff_count] at ih ⊢
      intro c
      have := ih c
      simp only [nodes, List.count_cons, List.count_append] at this ⊢
      omega
theorem ml_lft : ∀ (k : Nat) (a b : Tr), a.Lft → b.Lft → (ml lt k a b).Lft
  | 0, a, b, ha, hb => ha
  | k + 1, a, lf, ha, hb => by cases a <;> exact ha
  | k + 1, lf, nd n i l r, ha, hb => hb
  | k + 1, nd n i l r, nd m j l' r', ha, hb => by
    unfold ml
    split
    · exact mk_lft hb.2.1 (ml_lft k _ _ hb.2.2 ha)
    · exact mk_lft ha.2.1 (ml_lft k _ _ ha.2.2 hb)
theorem ml_od (ht : Tot lt) : ∀ (k : Nat) (a b : Tr), a.rank + b.rank < k → a.Od lt → b.Od lt → (ml lt k a b).Od lt
  | 0, a, b, h, _, _ => by omega
  | k + 1, a, lf, h, ha, hb => by cases a <;> exact ha
  | k + 1, lf, nd n i l r, h, ha, hb => hb
  | k + 1, nd n i l r, nd m j l' r', h, ha, hb => by
    simp only [rank] at h
    unfold ml
    split
    · rename_i q
      have hk : r'.rank + (nd n i l r).rank < k := by simp only [rank]; omega
      refine mk_od ?_ hb.2.1 (ml_od ht k _ _ hk hb.2.2 ha)
      intro c hc
      rw [List.mem_append, (ml_items k r' (nd n i l r) hk).mem_iff] at hc
      simp only [List.mem_append, items, List.mem_cons] at hc
      have h1 : lt i j = false := ht.one _ _ q
      rcases hc with hc | hc | rfl | hc
      · exact hb.1 c (List.mem_append.2 (Or.inl hc))
      · exact hb.1 c (List.mem_append.2 (Or.inr hc))
      · exact h1
      · exact ht.le j i c h1 (ha.1 c (List.mem_append.2 hc))
    · rename_i q
      have hk : r.rank + (nd m j l' r').rank < k := by simp only [rank]; omega
      refine mk_od ?_ ha.2.1 (ml_od ht k _ _ hk ha.2.2 hb)
      intro c hc
      rw [List.mem_append, (ml_items k r (nd m j l' r') hk).mem_iff] at hc
      simp only [List.mem_append, items, List.mem_cons] at hc
      have h1 : lt j i = false := by simpa using q
      rcases hc with hc | hc | rfl | hc
      · exact ha.1 c (List.mem_append.2 (Or.inl hc))
      · exact ha.1 c (List.mem_append.2 (Or.inr hc))
      · exact h1
      · exact ht.le i j c h1 (hb.1 c (List.mem_append.2 hc))
end ml
theorem Od.mono {lt lt' : Nat → Nat → Bool} : ∀ t : Tr, (∀ a ∈ t.items, ∀ b ∈ t.items, lt a b = lt' a b) → t.Od lt → t.Od lt'
  | lf, _, _ => trivial
  | nd n i l r, h, ho => by
    refine ⟨fun j hj => ?_, Od.mono l (fun a ha b hb => h a ?_ b ?_) ho.2.1, Od.mono r (fun a ha b hb => h a ?_ b ?_) ho.2.2⟩
    · rw [← h j (by simp only [items, List.mem_cons]; exact Or.inr hj) i (by simp [items])]; exact ho.1 j hj
    all_goals simp [items, *]

/-- the number j of the cell c is v -/
def put (f : Nat → Nat → Int) (c j : Nat) (v : Int) : Nat → Nat → Int := fun a => if a = c then upd (f c) j v else f a
theorem put_at {f : Nat → Nat → Int} {c j : Nat} {v : Int} : put f c j v c j = v := by simp [put, upd]
theorem put_ne {f : Nat → Nat → Int} {c j : Nat} {v : Int} {a : Nat} (h : a ≠ c) : put f c j v a = f a := by simp [put, h]
theorem put_nj {f : Nat → Nat → Int} {c j : Nat} {v : Int} {a i : Nat} (h : i ≠ j) : put f c j v a i = f a i := by
  by_cases e : a = c
  · subst e; simp [put, upd, h]
  · simp [put, e]
theorem put_or {f : Nat → Nat → Int} {c j : Nat} {v : Int} {a i : Nat} (h : a ≠ c ∨ i ≠ j) : put f c j v a i = f a i := by
  rcases h with h | h
  · rw [put_ne h]
  · exact put_nj h

/-- is the item c before d, where f tells the entries? -/
def befF (f : Nat → Nat → Int) (c d : Nat) : Bool := bef (f c 7) (f c 8) (f d 7) (f d 8) || (decide (f c 7 = f d 7 ∧ f c 8 = f d 8) && decide (c < d))
theorem befF_tot (f : Nat → Nat → Int) : Tot (befF f) := by
  refine ⟨fun a b h => ?_, fun a b c h1 h2 => ?_⟩
  · simp [befF, bef] at h ⊢; omega
  · simp [befF, bef] at h1 h2 ⊢; omega

/-- how a tree lies in cells: L: which are taken; f: what they have. Of the root's Up nothing is said. -/
def upIs (f : Nat → Nat → Int) : Tr → Int → Prop
  | lf, _ => True
  | nd n _ _ _, u => f n 0 = u
def Hp (L : Nat → Bool) (f : Nat → Nat → Int) : Tr → Prop
  | lf => True
  | nd n i l r => (L n = true ∧ L i = true) ∧ (f n 1 = -1 ∧ f n 2 = l.root ∧ f n 3 = r.root ∧ f n 4 = ((r.rank + 1 : Nat) : Int) ∧ f n 6 = (i : Int) ∧ f i 9 = (n : Int)) ∧ (upIs f l (n : Int) ∧ upIs f r (n : Int)) ∧ Hp L f l ∧ Hp L f r

theorem upIs.like {f f' : Nat → Nat → Int} {t : Tr} {u : Int} (h : upIs f t u) (hf : ∀ c ∈ t.cells, f' c 0 = f c 0) : upIs f' t u := by
  cases t with
  | lf => trivial
  | nd n i l r => show f' n 0 = u; rw [hf n (by simp [cells])]; exact h
theorem root_mem {t : Tr} {c : Nat} (h : t.root = (c : Int)) : c ∈ t.cells := by
  cases t with
  | lf => simp [root] at h
  | nd n i l r => simp only [root] at h; have : n = c := by omega
                  subst this; simp [cells]
/-- cells as they were, but for the root's Up -/
theorem Hp.like {L L' : Nat → Bool} {f f' : Nat → Nat → Int} : ∀ {t : Tr}, Hp L f t → t.cells.Nodup → (∀ c ∈ t.cells, L' c = L c) → (∀ c ∈ t.cells, ∀ j, (j = 0 → t.root ≠ (c : Int)) → f' c j = f c j) → Hp L' f' t
  | lf, _, _, _, _ => trivial
  | nd n i l r, h, hn, hL, hf => by
    obtain ⟨⟨a1, a2⟩, ⟨b1, b2, b3, b4, b5, b6⟩, ⟨u1, u2⟩, hl, hr⟩ := h
    simp only [cells, List.nodup_cons, List.mem_cons, List.mem_append, List.nodup_append, not_or] at hn
    obtain ⟨⟨n1, n2, n3⟩, ⟨n4, n5⟩, n6, n7, n8⟩ := hn
    have hne : ∀ c, c ≠ n → (nd n i l r).root ≠ (c : Int) := fun c hc e => hc (by simp only [root] at e; omega)
    have hc1 : ∀ c ∈ l.cells, ∀ j, f' c j = f c j := fun c hc j => hf c (by simp [cells, hc]) j (fun _ => hne c (fun e => n2 (e ▸ hc)))
    have hc2 : ∀ c ∈ r.cells, ∀ j, f' c j = f c j := fun c hc j => hf c (by simp [cells, hc]) j (fun _ => hne c (fun e => n3 (e ▸ hc)))
    have hn' : ∀ j, j ≠ 0 → f' n j = f n j := fun j hj => hf n (by simp [cells]) j (fun e => absurd e hj)
    have hi' : f' i 9 = f i 9 := hf i (by simp [cells]) 9 (by simp)
    refine ⟨⟨by rw [hL n (by simp [cells])]; exact a1, by rw [hL i (by simp [cells])]; exact a2⟩, ⟨?_, ?_, ?_, ?_, ?_, ?_⟩, ⟨u1.like fun c hc => hc1 c hc 0, u2.like fun c hc => hc2 c hc 0⟩, ?_, ?_⟩
    · rw [hn' 1 (by decide)]; exact b1
    · rw [hn' 2 (by decide)]; exact b2
    · rw [hn' 3 (by decide)]; exact b3
    · rw [hn' 4 (by decide)]; exact b4
    · rw [hn' 6 (by decide)]; exact b5
    · rw [hi']; exact b6
    · exact Hp.like hl n6 (fun c hc => hL c (by simp [cells, hc])) fun c hc j _ => hc1 c hc j
    · exact Hp.like hr n7 (fun c hc => hL c (by simp [cells, hc])) fun c hc j _ => hc2 c hc j
theorem Hp.live {L : Nat → Bool} {f : Nat → Nat → Int} : ∀ {t : Tr}, Hp L f t → ∀ c ∈ t.cells, L c = true
  | lf, _, c, hc => by simp [cells] at hc
  | nd n i l r, h, c, hc => by
    obtain ⟨⟨a1, a2⟩, _, _, hl, hr⟩ := h
    simp only [cells, List.mem_cons, List.mem_append] at hc
    rcases hc with rfl | rfl | hc | hc
    · exact a1
    · exact a2
    · exact hl.live c hc
    · exact hr.live c hc
end Go.Proofs.YtnkpopeahmjodaaGreat
