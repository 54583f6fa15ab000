/- Several texts in one. -/
import Derived.Test.YthfdooigljkfiaaGb
import Derived.Deep.Onto
import Derived.Laws.StructEq
/- Leftist trees, as plain data, and how they lie in an arena. -/
namespace Go.Proofs.Ythfdooigljkfiaa
open Go.ChangeShapes Go.WideShapes Go.ChangeAt Go.RowKit

/-- a tree: a node's cell, its item's, what is to its left and right -/
inductive Tr where
  | lf : Tr
  | nd (n i : Nat) (l r : Tr) : Tr

namespace Tr
def root : Tr → Int
  | lf => -1
  | nd n _ _ _ => n
def rank : Tr → Nat
  | lf => 0
  | nd _ _ _ r => r.rank + 1
def size : Tr → Nat
  | lf => 0
  | nd _ _ l r => l.size + r.size + 1
def nodes : Tr → List Nat
  | lf => []
  | nd n _ l r => n :: (l.nodes ++ r.nodes)
def items : Tr → List Nat
  | lf => []
  | nd _ i l r => i :: (l.items ++ r.items)
def cells : Tr → List Nat
  | lf => []
  | nd n i l r => n :: i :: (l.cells ++ r.cells)
/-- the one of greater Rank is to the left -/
def Lft : Tr → Prop
  | lf => True
  | nd _ _ l r => r.rank ≤ l.rank ∧ l.Lft ∧ r.Lft
/-- no item is before the one above it -/
def Od (lt : Nat → Nat → Bool) : Tr → Prop
  | lf => True
  | nd _ i l r => (∀ j ∈ l.items ++ r.items, lt j i = false) ∧ l.Od lt ∧ r.Od lt
/-- two children in their order -/
def mk (n i : Nat) (l r : Tr) : Tr := if l.rank < r.rank then nd n i r l else nd n i l r
/-- meld, at most so many levels down -/
def ml (lt : Nat → Nat → Bool) : Nat → Tr → Tr → Tr
  | 0, a, _ => a
  | _ + 1, a, lf => a
  | _ + 1, lf, b => b
  | k + 1, nd n i l r, nd m j l' r' => if lt j i = true then mk m j l' (ml lt k r' (nd n i l r)) else mk n i l (ml lt k r (nd m j l' r'))
end Tr
open Tr

theorem size_items : ∀ t : Tr, t.items.length = t.size
  | lf => rfl
  | nd n i l r => by simp [items, size, size_items l, size_items r]
theorem size_nodes : ∀ t : Tr, t.nodes.length = t.size
  | lf => rfl
  | nd n i l r => by simp [nodes, size, size_nodes l, size_nodes r]
theorem cells_perm : ∀ t : Tr, t.cells.Perm (t.nodes ++ t.items)
  | lf => .nil
  | nd n i l r => by
    have h := (cells_perm l).append (cells_perm r)
    simp only [cells, nodes, items, List.cons_append]
    refine .cons n ?_
    have e : (i :: (l.cells ++ r.cells)).Perm (i :: ((l.nodes ++ l.items) ++ (r.nodes ++ r.items))) := .cons i h
    refine e.trans ?_
    rw [List.perm_iff_count]
    intro a
    simp only [List.count_cons, List.count_append]
    omega
theorem mem_cells {t : Tr} {c : Nat} : c ∈ t.cells ↔ c ∈ t.nodes ∨ c ∈ t.items := by rw [(cells_perm t).mem_iff, List.mem_append]
/-- a tree of that Rank has so many nodes -/
theorem rank_size : ∀ t : Tr, t.Lft → 2 ^ t.rank ≤ t.size + 1
  | lf, _ => by simp [rank, size]
  | nd n i l r, h => by
    obtain ⟨h1, h2, h3⟩ := h
    have a := rank_size l h2
    have b := rank_size r h3
    have c : 2 ^ r.rank ≤ 2 ^ l.rank := Nat.pow_le_pow_right (by decide) h1
    simp only [rank, size]
    rw [Nat.pow_succ]
    omega

section mk
variable {lt : Nat → Nat → Bool} {n i : Nat} {l r : Tr}
theorem mk_root : (mk n i l r).root = n := by unfold mk; split <;> rfl
theorem mk_cells : (mk n i l r).cells.Perm (n :: i :: (l.cells ++ r.cells)) := by
  unfold mk; split
  · exact .cons _ (.cons _ List.perm_append_comm)
  · exact .refl _
theorem mk_items : (mk n i l r).items.Perm (i :: (l.items ++ r.items)) := by
  unfold mk; split
  · exact .cons _ List.perm_append_comm
  · exact .refl _
theorem mk_nodes : (mk n i l r).nodes.Perm (n :: (l.nodes ++ r.nodes)) := by
  unfold mk; split
  · exact .cons _ List.perm_append_comm
  · exact .refl _
theorem mk_lft (hl : l.Lft) (hr : r.Lft) : (mk n i l r).Lft := by
  unfold mk; split
  · exact ⟨by omega, hr, hl⟩
  · exact ⟨by omega, hl, hr⟩
theorem mk_od (h : ∀ j ∈ l.items ++ r.items, lt j i = false) (hl : l.Od lt) (hr : r.Od lt) : (mk n i l r).Od lt := by
  unfold mk; split
  · exact ⟨fun j hj => h j (by rw [List.mem_append] at hj ⊢; exact hj.symm), hr, hl⟩
  · exact ⟨h, hl, hr⟩
end mk

/-- what 'before' must be: of two one is not before; not before is passed on -/
structure Tot (lt : Nat → Nat → Bool) : Prop where
  one : ∀ a b, lt a b = true → lt b a = false
  le : ∀ a b c, lt b a = false → lt c b = false → lt c a = false

section ml
variable {lt : Nat → Nat → Bool}
theorem ml_items : ∀ (k : Nat) (a b : Tr), a.rank + b.rank < k → (ml lt k a b).items.Perm (a.items ++ b.items)
  | 0, a, b, h => by omega
  | k + 1, a, lf, h => by cases a <;> simp [ml, items]
  | k + 1, lf, nd n i l r, h => by simp [ml, items]
  | k + 1, nd n i l r, nd m j l' r', h => by
    simp only [rank] at h
    unfold ml
    split
    · refine mk_items.trans ?_
      have ih := ml_items k r' (nd n i l r) (by simp only [rank]; omega)
      rw [List.perm_iff_count] at ih ⊢
      intro c
      have := ih c
      simp only [items, List.count_cons, List.count_append] at this ⊢
      omega
    · refine mk_items.trans ?_
      have ih := ml_items k r (nd m j l' r') (by simp only [rank]; omega)
      rw [List.perm_iff_count] at ih ⊢
      intro c
      have := ih c
      simp only [items, List.count_cons, List.count_append] at this ⊢
      omega
theorem ml_cells : ∀ (k : Nat) (a b : Tr), a.rank + b.rank < k → (ml lt k a b).cells.Perm (a.cells ++ b.cells)
  | 0, a, b, h => by omega
  | k + 1, a, lf, h => by cases a <;> simp [ml, cells]
  | k + 1, lf, nd n i l r, h => by simp [ml, cells]
  | k + 1, nd n i l r, nd m j l' r', h => by
    simp only [rank] at h
    unfold ml
    split
    · refine mk_cells.trans ?_
      have ih := ml_cells k r' (nd n i l r) (by simp only [rank]; omega)
      rw [List.perm_iff_count] at ih ⊢
      intro c
      have := ih c
      simp only [cells, List.count_cons, List.count_append] at this ⊢
      omega
    · refine mk_cells.trans ?_
      have ih := ml_cells k r (nd m j l' r') (by simp only [rank]; omega)
      rw [List.perm_iff_count] at ih ⊢
      intro c
      have := ih c
      simp only [cells, List.count_cons, List.count_append] at this ⊢
      omega
theorem ml_nodes : ∀ (k : Nat) (a b : Tr), a.rank + b.rank < k → (ml lt k a b).nodes.Perm (a.nodes ++ b.nodes)
  | 0, a, b, h => by omega
  | k + 1, a, lf, h => by cases a <;> simp [ml, nodes]
  | k + 1, lf, nd n i l r, h => by simp [ml, nodes]
  | k + 1, nd n i l r, nd m j l' r', h => by
    simp only [rank] at h
    unfold ml
    split
    · refine mk_nodes.trans ?_
      have ih := ml_nodes k r' (nd n i l r) (by simp only [rank]; omega)
      rw [List.perm_iff_count] at ih ⊢
      intro c
      have := ih c
      simp only [nodes, List.count_cons, List.count_append] at this ⊢
      omega
    · refine mk_nodes.trans ?_
      have ih := ml_nodes k r (nd m j l' r') (by simp only [rank]; omega)
      rw [List.perm_iff_count] at ih ⊢
      intro c
      have := ih c
      simp only [nodes, List.count_cons, List.count_append] at this ⊢
      omega
theorem ml_lft : ∀ (k : Nat) (a b : Tr), a.Lft → b.Lft → (ml lt k a b).Lft
  | 0, a, b, ha, hb => ha
  | k + 1, a, lf, ha, hb => by cases a <;> exact ha
  | k + 1, lf, nd n i l r, ha, hb => hb
  | k + 1, nd n i l r, nd m j l' r', ha, hb => by
    unfold ml
    split
    · exact mk_lft hb.2.1 (ml_lft k _ _ hb.2.2 ha)
    · exact mk_lft ha.2.1 (ml_lft k _ _ ha.2.2 hb)
theorem ml_od (ht : Tot lt) : ∀ (k : Nat) (a b : Tr), a.rank + b.rank < k → a.Od lt → b.Od lt → (ml lt k a b).Od lt
  | 0, a, b, h, _, _ => by omega
  | k + 1, a, lf, h, ha, hb => by cases a <;> exact ha
  | k + 1, lf, nd n i l r, h, ha, hb => hb
  | k + 1, nd n i l r, nd m j l' r', h, ha, hb => by
    simp only [rank] at h
    unfold ml
    split
    · rename_i q
      have hk : r'.rank + (nd n i l r).rank < k := by simp only [rank]; omega
      refine mk_od ?_ hb.2.1 (ml_od ht k _ _ hk hb.2.2 ha)
      intro c hc
      rw [List.mem_append, (ml_items k r' (nd n i l r) hk).mem_iff] at hc
      simp only [List.mem_append, items, List.mem_cons] at hc
      have h1 : lt i j = false := ht.one _ _ q
      rcases hc with hc | hc | rfl | hc
      · exact hb.1 c (List.mem_append.2 (Or.inl hc))
      · exact hb.1 c (List.mem_append.2 (Or.inr hc))
      · exact h1
      · exact ht.le j i c h1 (ha.1 c (List.mem_append.2 hc))
    · rename_i q
      have hk : r.rank + (nd m j l' r').rank < k := by simp only [rank]; omega
      refine mk_od ?_ ha.2.1 (ml_od ht k _ _ hk ha.2.2 hb)
      intro c hc
      rw [List.mem_append, (ml_items k r (nd m j l' r') hk).mem_iff] at hc
      simp only [List.mem_append, items, List.mem_cons] at hc
      have h1 : lt j i = false := by simpa using q
      rcases hc with hc | hc | rfl | hc
      · exact ha.1 c (List.mem_append.2 (Or.inl hc))
      · exact ha.1 c (List.mem_append.2 (Or.inr hc))
      · exact h1
      · exact ht.le i j c h1 (hb.1 c (List.mem_append.2 hc))
end ml
theorem Od.mono {lt lt' : Nat → Nat → Bool} : ∀ t : Tr, (∀ a ∈ t.items, ∀ b ∈ t.items, lt a b = lt' a b) → t.Od lt → t.Od lt'
  | lf, _, _ => trivial
  | nd n i l r, h, ho => by
    refine ⟨fun j hj => ?_, Od.mono l (fun a ha b hb => h a ?_ b ?_) ho.2.1, Od.mono r (fun a ha b hb => h a ?_ b ?_) ho.2.2⟩
    · rw [← h j (by simp only [items, List.mem_cons]; exact Or.inr hj) i (by simp [items])]; exact ho.1 j hj
    all_goals simp [items, *]

/-- the number j of the cell c is v -/
def put (f : Nat → Nat → Int) (c j : Nat) (v : Int) : Nat → Nat → Int := fun a => if a = c then upd (f c) j v else f a
theorem put_at {f : Nat → Nat → Int} {c j : Nat} {v : Int} : put f c j v c j = v := by simp [put, upd]
theorem put_ne {f : Nat → Nat → Int} {c j : Nat} {v : Int} {a : Nat} (h : a ≠ c) : put f c j v a = f a := by simp [put, h]
theorem put_nj {f : Nat → Nat → Int} {c j : Nat} {v : Int} {a i : Nat} (h : i ≠ j) : put f c j v a i = f a i := by
  by_cases e : a = c
  · subst e; simp [put, upd, h]
  · simp [put, e]
theorem put_or {f : Nat → Nat → Int} {c j : Nat} {v : Int} {a i : Nat} (h : a ≠ c ∨ i ≠ j) : put f c j v a i = f a i := by
  rcases h with h | h
  · rw [put_ne h]
  · exact put_nj h

/-- is the item c before d, where f tells the entries? -/
def befF (f : Nat → Nat → Int) (c d : Nat) : Bool := bef (f c 7) (f c 8) (f d 7) (f d 8) || (decide (f c 7 = f d 7 ∧ f c 8 = f d 8) && decide (c < d))
theorem befF_tot (f : Nat → Nat → Int) : Tot (befF f) := by
  refine ⟨fun a b h => ?_, fun a b c h1 h2 => ?_⟩
  · simp [befF, bef] at h ⊢; omega
  · simp [befF, bef] at h1 h2 ⊢; omega

/-- how a tree lies in cells: L: which are taken; f: what they have. Of the root's Up nothing is said. -/
def upIs (f : Nat → Nat → Int) : Tr → Int → Prop
  | lf, _ => True
  | nd n _ _ _, u => f n 0 = u
def Hp (L : Nat → Bool) (f : Nat → Nat → Int) : Tr → Prop
  | lf => True
  | nd n i l r => (L n = true ∧ L i = true) ∧ (f n 1 = -1 ∧ f n 2 = l.root ∧ f n 3 = r.root ∧ f n 4 = ((r.rank + 1 : Nat) : Int) ∧ f n 6 = (i : Int) ∧ f i 9 = (n : Int)) ∧ (upIs f l (n : Int) ∧ upIs f r (n : Int)) ∧ Hp L f l ∧ Hp L f r

theorem upIs.like {f f' : Nat → Nat → Int} {t : Tr} {u : Int} (h : upIs f t u) (hf : ∀ c ∈ t.cells, f' c 0 = f c 0) : upIs f' t u := by
  cases t with
  | lf => trivial
  | nd n i l r => show f' n 0 = u; rw [hf n (by simp [cells])]; exact h
theorem root_mem {t : Tr} {c : Nat} (h : t.root = (c : Int)) : c ∈ t.cells := by
  cases t with
  | lf => simp [root] at h
  | nd n i l r => simp only [root] at h; have : n = c := by omega
                  subst this; simp [cells]
/-- cells as they were, but for the root's Up -/
theorem Hp.like {L L' : Nat → Bool} {f f' : Nat → Nat → Int} : ∀ {t : Tr}, Hp L f t → t.cells.Nodup → (∀ c ∈ t.cells, L' c = L c) → (∀ c ∈ t.cells, ∀ j, (j = 0 → t.root ≠ (c : Int)) → f' c j = f c j) → Hp L' f' t
  | lf, _, _, _, _ => trivial
  | nd n i l r, h, hn, hL, hf => by
    obtain ⟨⟨a1, a2⟩, ⟨b1, b2, b3, b4, b5, b6⟩, ⟨u1, u2⟩, hl, hr⟩ := h
    simp only [cells, List.nodup_cons, List.mem_cons, List.mem_append, List.nodup_append, not_or] at hn
    obtain ⟨⟨n1, n2, n3⟩, ⟨n4, n5⟩, n6, n7, n8⟩ := hn
    have hne : ∀ c, c ≠ n → (nd n i l r).root ≠ (c : Int) := fun c hc e => hc (by simp only [root] at e; omega)
    have hc1 : ∀ c ∈ l.cells, ∀ j, f' c j = f c j := fun c hc j => hf c (by simp [cells, hc]) j (fun _ => hne c (fun e => n2 (e ▸ hc)))
    have hc2 : ∀ c ∈ r.cells, ∀ j, f' c j = f c j := fun c hc j => hf c (by simp [cells, hc]) j (fun _ => hne c (fun e => n3 (e ▸ hc)))
    have hn' : ∀ j, j ≠ 0 → f' n j = f n j := fun j hj => hf n (by simp [cells]) j (fun e => absurd e hj)
    have hi' : f' i 9 = f i 9 := hf i (by simp [cells]) 9 (by simp)
    refine ⟨⟨by rw [hL n (by simp [cells])]; exact a1, by rw [hL i (by simp [cells])]; exact a2⟩, ⟨?_, ?_, ?_, ?_, ?_, ?_⟩, ⟨u1.like fun c hc => hc1 c hc 0, u2.like fun c hc => hc2 c hc 0⟩, ?_, ?_⟩
    · rw [hn' 1 (by decide)]; exact b1
    · rw [hn' 2 (by decide)]; exact b2
    · rw [hn' 3 (by decide)]; exact b3
    · rw [hn' 4 (by decide)]; exact b4
    · rw [hn' 6 (by decide)]; exact b5
    · rw [hi']; exact b6
    · exact Hp.like hl n6 (fun c hc => hL c (by simp [cells, hc])) fun c hc j _ => hc1 c hc j
    · exact Hp.like hr n7 (fun c hc => hL c (by simp [cells, hc])) fun c hc j _ => hc2 c hc j
theorem Hp.live {L : Nat → Bool} {f : Nat → Nat → Int} : ∀ {t : Tr}, Hp L f t → ∀ c ∈ t.cells, L c = true
  | lf, _, c, hc => by simp [cells] at hc
  | nd n i l r, h, c, hc => by
    obtain ⟨⟨a1, a2⟩, _, _, hl, hr⟩ := h
    simp only [cells, List.mem_cons, List.mem_append] at hc
    rcases hc with rfl | rfl | hc | hc
    · exact a1
    · exact a2
    · exact hl.live c hc
    · exact hr.live c hc
end Go.Proofs.Ythfdooigljkfiaa

/- Leftist trees in an arena: what lean and meld do. -/
namespace Go.Proofs.Ythfdooigljkfiaa
open Go.ChangeShapes Go.WideShapes Go.ChangeAt Go.RowKit
open Tr

/-- is the cell taken? -/
def LS (s : St) (c : Nat) : Bool := liveS s (c : Int)
section
variable {s : St} {c : Nat}
theorem ls_pl (h : LS s c = true) : ∃ x, s.pl[c]? = some (x, true) := by
  have := (live_iff.1 h).2
  simpa using this
theorem ls_lt (h : LS s c = true) : c < s.pl.length := by
  obtain ⟨x, hx⟩ := ls_pl h
  exact (List.getElem?_eq_some_iff.1 hx).1
theorem ls_most (ok : Ok s) (h : LS s c = true) : c < s.most := Nat.lt_of_lt_of_le (ls_lt h) ok.fits
theorem ls_cl (ok : Ok s) (h : LS s c = true) : Cl (c : Int) := ⟨by omega, by have := ls_most ok h; have := ok.top; omega⟩
theorem may_nat {j : Nat} (h : LS s c = true) (hj : j ≤ 9) : mayS s (c : Int) (j : Int) = true := by
  unfold mayS
  rw [show liveS s (c : Int) = true from h]
  simp; omega
theorem get_nat {j : Nat} (h : LS s c = true) (hj : j ≤ 9) : getS s (c : Int) (j : Int) = hasS s c j := by
  rw [get_yes (may_nat h hj)]; simp
theorem cell_nat {j d : Nat} (ok : Ok s) (h : LS s c = true) (hj : j ≤ 9) (he : hasS s c j = (d : Int)) (hd : LS s d = true) : cellS s (c : Int) (j : Int) = (d : Int) := by
  rw [cell_yes (by rw [get_nat h hj, he]; have := ls_most ok hd; omega), get_nat h hj, he]
theorem cell_neg {j : Nat} (h : LS s c = true) (hj : j ≤ 9) (he : hasS s c j = -1) : cellS s (c : Int) (j : Int) = -1 := cell_no (by rw [get_nat h hj, he]; omega)
theorem may_none {f : Int} : mayS s (-1) f = false := may_not (live_neg (by decide))
theorem get_none {f : Int} : getS s (-1) f = -1 := get_no may_none
theorem cell_none {f : Int} : cellS s (-1) f = -1 := cell_no (by rw [get_none]; omega)
theorem set_none {f v : Int} : setS s (-1) f v = tk s 1 := set_no may_none
theorem set_ls {f v : Int} {x : Int} : LS (setS s x f v) = LS s := by
  funext a
  unfold LS setS
  split
  · rename_i hm
    obtain ⟨h0, y, hy⟩ := live_iff.1 (may_yes hm).1
    unfold liveS
    simp only
    by_cases e : x.toNat = a
    · subst e
      simp only [Int.toNat_natCast]
      rw [List.getElem?_set_self (List.getElem?_eq_some_iff.1 hy).1, hy]
    · simp only [Int.toNat_natCast]
      rw [List.getElem?_set_ne e]
  · rfl
theorem set_has {j : Nat} {v : Int} (h : LS s c = true) (hj : j ≤ 9) : hasS (setS s (c : Int) (j : Int) v) = put (hasS s) c j v := by
  obtain ⟨x, hx⟩ := ls_pl h
  rw [set_yes (may_nat h hj) (by simpa using hx)]
  funext a k
  unfold hasS
  simp only [Int.toNat_natCast]
  by_cases e : a = c
  · subst e
    rw [List.getElem?_set_self (ls_lt h)]
    simp [put, hx]
  · rw [List.getElem?_set_ne (fun q => e q.symm)]
    rw [put_ne e]
end

/-- the same cells are taken, the same are free, in their order -/
structure Sm (s s' : St) : Prop where
  ok : Ok s'
  most : s'.most = s.most
  back : s'.back = s.back
  len : s'.pl.length = s.pl.length
  ls : LS s' = LS s
section
variable {s s' s'' : St}
theorem Sm.refl (ok : Ok s) : Sm s s := ⟨ok, rfl, rfl, rfl, rfl⟩
theorem Sm.trans (h : Sm s s') (k : Sm s' s'') : Sm s s'' := ⟨k.ok, k.most.trans h.most, k.back.trans h.back, k.len.trans h.len, k.ls.trans h.ls⟩
theorem Sm.tk (ok : Ok s) (k : Nat) : Sm s (tk s k) := ⟨⟨ok.top, ok.fits, ok.free, ok.once, ok.count⟩, rfl, rfl, rfl, rfl⟩
theorem Sm.set (ok : Ok s) (c f v : Int) : Sm s (setS s c f v) := ⟨ok.set, set_most _ _ _ _, by unfold setS; split <;> rfl, by unfold setS; split <;> simp [tick], set_ls⟩
theorem Sm.lk (ok : Ok s) (n f c : Int) : Sm s (lkS s n f c) := (Sm.set ok n f c).trans (Sm.set ok.set c 0 n)
theorem Sm.le (ok : Ok s) (n c d low : Int) : Sm s (leS s n c d low) := by
  have h1 := Sm.tk ok 2
  have h2 := h1.trans (Sm.lk h1.ok n 2 c)
  have h3 := h2.trans (Sm.lk h2.ok n 3 d)
  have h4 := h3.trans (Sm.tk h3.ok 1)
  exact h4.trans (Sm.set h4.ok n 4 (low + 1))
theorem Sm.lean (ok : Ok s) (n c d : Int) : Sm s (leanS s n c d) := by unfold leanS; split <;> exact Sm.le ok _ _ _ _
theorem Sm.meld : ∀ (k : Nat) {s : St} (_ : Ok s) (r t : Int), Sm s (meldS k s r t).2
  | 0, s, ok, r, t => Sm.refl ok
  | k + 1, s, ok, r, t => by
    unfold meldS
    split
    · exact Sm.refl ok
    · split
      · exact Sm.refl ok
      · have h1 := Sm.tk ok 10
        have h2 := h1.trans (Sm.meld k h1.ok (rcS s (topS s r t)) (othS s r t))
        exact h2.trans (Sm.lean h2.ok _ _ _)
end

/-- what link does -/
def lkF (f : Nat → Nat → Int) (n k : Nat) (x : Int) : Nat → Nat → Int := fun a j => if j = 0 ∧ x = (a : Int) then (n : Int) else if a = n ∧ j = k then x else f a j
theorem lk_has {s : St} {n k : Nat} {x : Int} (hn : LS s n = true) (hk : k ≤ 9) (hx : x = -1 ∨ ∃ c : Nat, x = (c : Int) ∧ LS s c = true) : hasS (lkS s (n : Int) (k : Int) x) = lkF (hasS s) n k x := by
  unfold lkS
  rcases hx with rfl | ⟨m, rfl, hm⟩
  · rw [set_none]
    show hasS (setS s (n : Int) (k : Int) (-1)) = _
    rw [set_has hn hk]
    funext a j
    unfold lkF
    rw [if_neg (by omega)]
    by_cases e : a = n
    · subst e
      by_cases q : j = k
      · subst q; rw [put_at]; simp
      · rw [put_nj q]; simp [q]
    · rw [put_ne e]; simp [e]
  · have e1 := set_has (v := (m : Int)) hn hk
    have h2 : LS (setS s (n : Int) (k : Int) (m : Int)) m = true := by rw [set_ls]; exact hm
    have e2 := set_has (j := 0) (v := (n : Int)) h2 (by decide)
    rw [e1] at e2
    refine e2.trans ?_
    funext a j
    unfold lkF
    by_cases e : j = 0 ∧ (m : Int) = (a : Int)
    · rw [if_pos e]
      obtain ⟨rfl, e⟩ := e
      have : m = a := by omega
      subst this
      exact put_at
    · rw [if_neg e, put_or (by by_cases q : a = m; · right; intro z; exact e ⟨z, by omega⟩
                               · left; exact q)]
      by_cases q : a = n
      · subst q
        by_cases z : j = k
        · subst z; rw [put_at]; simp
        · rw [put_nj z]; simp [z]
      · rw [put_ne q]; simp [q]

section
variable {s : St} {n i : Nat} {l r : Tr}
theorem root_live {L : Nat → Bool} {f : Nat → Nat → Int} {t : Tr} (h : Hp L f t) : ∀ c : Nat, t.root = (c : Int) → L c = true := fun c hc => h.live c (root_mem hc)
theorem root_or {L : Nat → Bool} {f : Nat → Nat → Int} {t : Tr} (h : Hp L f t) : t.root = -1 ∨ ∃ c : Nat, t.root = (c : Int) ∧ L c = true := by
  cases t with
  | lf => exact Or.inl rfl
  | nd n i l r => exact Or.inr ⟨n, rfl, h.1.1⟩
theorem ch_tree {k : Nat} {t : Tr} (ok : Ok s) (hn : LS s n = true) (hk : k ≤ 9) (he : hasS s n k = t.root) (ht : Hp (LS s) (hasS s) t) (hu : upIs (hasS s) t (n : Int)) : chS s (n : Int) (k : Int) = t.root := by
  unfold chS
  cases t with
  | lf => rw [cell_neg hn hk he]; split <;> rfl
  | nd m j a b =>
    have hm : LS s m = true := root_live ht m rfl
    have e0 : cellS s (m : Int) 0 = (n : Int) := cell_nat (j := 0) ok hm (by decide) hu hn
    rw [cell_nat ok hn hk he hm, if_pos e0]
    rfl
theorem lc_tree (ok : Ok s) (h : Hp (LS s) (hasS s) (nd n i l r)) : lcS s (n : Int) = l.root := by
  obtain ⟨⟨a1, a2⟩, ⟨b1, b2, b3, b4, b5, b6⟩, ⟨u1, u2⟩, hl, hr⟩ := h
  exact ch_tree (k := 2) ok a1 (by decide) b2 hl u1
theorem rc_tree (ok : Ok s) (h : Hp (LS s) (hasS s) (nd n i l r)) (hd : (nd n i l r).cells.Nodup) : rcS s (n : Int) = r.root := by
  obtain ⟨⟨a1, a2⟩, ⟨b1, b2, b3, b4, b5, b6⟩, ⟨u1, u2⟩, hl, hr⟩ := h
  have e1 : chS s (n : Int) 2 = l.root := ch_tree (k := 2) ok a1 (by decide) b2 hl u1
  have e2 : chS s (n : Int) 3 = r.root := ch_tree (k := 3) ok a1 (by decide) b3 hr u2
  unfold rcS
  rw [e1, e2]
  split
  · rename_i q
    cases r with
    | lf => rfl
    | nd m j a b =>
      exfalso
      simp only [cells, List.nodup_cons, List.nodup_append] at hd
      exact hd.2.2.2.2 m (root_mem q) m (by simp) rfl
  · rfl
theorem rk_tree {t : Tr} (h : Hp (LS s) (hasS s) t) : rkS s t.root = (t.rank : Int) := by
  unfold rkS
  cases t with
  | lf => simp only [root]; rw [get_none]; rfl
  | nd n i l r =>
    obtain ⟨⟨a1, a2⟩, ⟨b1, b2, b3, b4, b5, b6⟩, _⟩ := h
    have e : getS s (n : Int) 4 = hasS s n 4 := get_nat (j := 4) a1 (by decide)
    simp only [root, rank]
    rw [e, b4]
    omega
theorem it_tree (ok : Ok s) (h : Hp (LS s) (hasS s) (nd n i l r)) : cellS s (n : Int) 6 = (i : Int) := by
  obtain ⟨⟨a1, a2⟩, ⟨b1, b2, b3, b4, b5, b6⟩, _⟩ := h
  exact cell_nat (j := 6) ok a1 (by decide) b5 a2
theorem no_tree (ok : Ok s) (h : Hp (LS s) (hasS s) (nd n i l r)) : cellS s (i : Int) 9 = (n : Int) := by
  obtain ⟨⟨a1, a2⟩, ⟨b1, b2, b3, b4, b5, b6⟩, _⟩ := h
  exact cell_nat (j := 9) ok a2 (by decide) b6 a1
theorem bef_nat {c d : Nat} (hc : LS s c = true) (hd : LS s d = true) : befS s (c : Int) (d : Int) = befF (hasS s) c d := by
  have e1 : getS s (c : Int) 7 = hasS s c 7 := get_nat (j := 7) hc (by decide)
  have e2 : getS s (c : Int) 8 = hasS s c 8 := get_nat (j := 8) hc (by decide)
  have e3 : getS s (d : Int) 7 = hasS s d 7 := get_nat (j := 7) hd (by decide)
  have e4 : getS s (d : Int) 8 = hasS s d 8 := get_nat (j := 8) hd (by decide)
  unfold befS befF
  rw [e1, e2, e3, e4]
  simp
theorem nb_tree {m j : Nat} {l' r' : Tr} (ok : Ok s) (h : Hp (LS s) (hasS s) (nd n i l r)) (h' : Hp (LS s) (hasS s) (nd m j l' r')) : nbS s (n : Int) (m : Int) = befF (hasS s) i j := by
  unfold nbS
  rw [it_tree ok h, it_tree ok h', bef_nat h.1.2 h'.1.2]
theorem root_tree (ok : Ok s) (h : Hp (LS s) (hasS s) (nd n i l r)) (hu : hasS s n 0 = -1) : rootS s (n : Int) = (n : Int) := by
  unfold rootS
  rw [if_pos ⟨cell_neg (j := 0) h.1.1 (by decide) hu, by rw [it_tree ok h, no_tree ok h]⟩]
theorem root_none : rootS s (-1) = -1 := by unfold rootS; split <;> rfl
/-- a root's Up is none, so it is one -/
theorem root_any {t : Tr} (ok : Ok s) (h : Hp (LS s) (hasS s) t) (hu : upIs (hasS s) t (-1)) : rootS s t.root = t.root := by
  cases t with
  | lf => exact root_none
  | nd n i l r => exact root_tree ok h hu
end

/-- what lean does, its children in their order -/
theorem le_tree {s : St} {n i : Nat} {c d : Tr} (ok : Ok s) (hc : Hp (LS s) (hasS s) c) (hd : Hp (LS s) (hasS s) d) (hnd : (n :: i :: (c.cells ++ d.cells)).Nodup) (hn : LS s n = true) (hi : LS s i = true)
    (h1 : hasS s n 1 = -1) (h6 : hasS s n 6 = (i : Int)) (h9 : hasS s i 9 = (n : Int)) :
    Hp (LS s) (hasS (leS s (n : Int) c.root d.root (d.rank : Int))) (nd n i c d) ∧
    (∀ a j, (a ≠ n ∨ (j ≠ 2 ∧ j ≠ 3 ∧ j ≠ 4)) → (j ≠ 0 ∨ (c.root ≠ (a : Int) ∧ d.root ≠ (a : Int))) → hasS (leS s (n : Int) c.root d.root (d.rank : Int)) a j = hasS s a j) ∧
    wasS s (n : Int) c.root d.root = hasS s n 4 := by
  have g1 : hasS (lkS (tk s 2) (n : Int) 2 c.root) = lkF (hasS s) n 2 c.root := lk_has (s := tk s 2) (k := 2) hn (by decide) (root_or hc)
  have l1 : LS (lkS (tk s 2) (n : Int) 2 c.root) = LS s := (Sm.lk (s := tk s 2) (Sm.tk ok 2).ok _ _ _).ls
  have g2 : hasS (lkS (lkS (tk s 2) (n : Int) 2 c.root) (n : Int) 3 d.root) = lkF (lkF (hasS s) n 2 c.root) n 3 d.root := by
    rw [← g1]
    exact lk_has (k := 3) (by rw [l1]; exact hn) (by decide) (by rw [l1]; exact root_or hd)
  have l2 : LS (lkS (lkS (tk s 2) (n : Int) 2 c.root) (n : Int) 3 d.root) = LS s := ((Sm.lk (s := tk s 2) (Sm.tk ok 2).ok _ _ _).trans (Sm.lk (Sm.lk (s := tk s 2) (Sm.tk ok 2).ok _ _ _).ok _ _ _)).ls
  have g3 : hasS (leS s (n : Int) c.root d.root (d.rank : Int)) = put (lkF (lkF (hasS s) n 2 c.root) n 3 d.root) n 4 ((d.rank : Int) + 1) := by
    unfold leS
    rw [← g2]
    exact set_has (s := tk (lkS (lkS (tk s 2) (n : Int) 2 c.root) (n : Int) 3 d.root) 1) (j := 4) (by show LS (lkS (lkS (tk s 2) (n : Int) 2 c.root) (n : Int) 3 d.root) n = true; rw [l2]; exact hn) (by decide)
  have hval : ∀ a j, hasS (leS s (n : Int) c.root d.root (d.rank : Int)) a j = if a = n ∧ j = 4 then (d.rank : Int) + 1 else if j = 0 ∧ d.root = (a : Int) then (n : Int) else if a = n ∧ j = 3 then d.root else if j = 0 ∧ c.root = (a : Int) then (n : Int) else if a = n ∧ j = 2 then c.root else hasS s a j := by
    intro a j
    rw [g3]
    by_cases e : a = n ∧ j = 4
    · rw [if_pos e, e.1, e.2, put_at]
    · rw [if_neg e, put_or (by by_cases q : a = n; · right; exact fun z => e ⟨q, z⟩
                               · left; exact q)]
      unfold lkF
      rfl
  simp only [List.nodup_cons, List.mem_cons, List.mem_append, List.nodup_append, not_or] at hnd
  obtain ⟨⟨n1, n2, n3⟩, ⟨n4, n5⟩, n6, n7, n8⟩ := hnd
  have rc : ∀ a : Nat, c.root = (a : Int) → a ≠ n ∧ a ≠ i := fun a ha => ⟨fun e => n2 (e ▸ root_mem ha), fun e => n4 (e ▸ root_mem ha)⟩
  have rd : ∀ a : Nat, d.root = (a : Int) → a ≠ n ∧ a ≠ i := fun a ha => ⟨fun e => n3 (e ▸ root_mem ha), fun e => n5 (e ▸ root_mem ha)⟩
  have hframe : ∀ a j, (a ≠ n ∨ (j ≠ 2 ∧ j ≠ 3 ∧ j ≠ 4)) → (j ≠ 0 ∨ (c.root ≠ (a : Int) ∧ d.root ≠ (a : Int))) → hasS (leS s (n : Int) c.root d.root (d.rank : Int)) a j = hasS s a j := by
    intro a j p q
    rw [hval, if_neg (by omega), if_neg (by rintro ⟨z1, z2⟩; rcases q with q | q; exact q z1; exact q.2 z2), if_neg (by omega), if_neg (by rintro ⟨z1, z2⟩; rcases q with q | q; exact q z1; exact q.1 z2), if_neg (by omega)]
  refine ⟨⟨⟨hn, hi⟩, ⟨?_, ?_, ?_, ?_, ?_, ?_⟩, ⟨?_, ?_⟩, ?_, ?_⟩, hframe, ?_⟩
  · rw [hframe n 1 (Or.inr ⟨by decide, by decide, by decide⟩) (Or.inl (by decide))]; exact h1
  · rw [hval, if_neg (by omega), if_neg (by omega), if_neg (by omega), if_neg (by omega), if_pos ⟨rfl, rfl⟩]
  · rw [hval, if_neg (by omega), if_neg (by omega), if_pos ⟨rfl, rfl⟩]
  · rw [hval, if_pos ⟨rfl, rfl⟩]; omega
  · rw [hframe n 6 (Or.inr ⟨by decide, by decide, by decide⟩) (Or.inl (by decide))]; exact h6
  · rw [hframe i 9 (Or.inr ⟨by decide, by decide, by decide⟩) (Or.inl (by decide))]; exact h9
  · cases c with
    | lf => trivial
    | nd m j a b =>
      show hasS (leS s (n : Int) (nd m j a b).root d.root (d.rank : Int)) m 0 = (n : Int)
      rw [hval, if_neg (by omega), if_neg (by rintro ⟨_, z⟩; exact n8 m (by simp [cells]) m (root_mem z) rfl), if_neg (by omega), if_pos ⟨rfl, rfl⟩]
  · cases d with
    | lf => trivial
    | nd m j a b =>
      show hasS (leS s (n : Int) c.root (nd m j a b).root ((nd m j a b).rank : Int)) m 0 = (n : Int)
      rw [hval, if_neg (by omega), if_pos ⟨rfl, rfl⟩]
  · refine hc.like n6 (fun _ _ => rfl) fun a ha j q => hframe a j (Or.inl (fun e => n2 (e ▸ ha))) ?_
    by_cases z : j = 0
    · exact Or.inr ⟨q z, fun y => n8 a ha a (root_mem y) rfl⟩
    · exact Or.inl z
  · refine hd.like n7 (fun _ _ => rfl) fun a ha j q => hframe a j (Or.inl (fun e => n3 (e ▸ ha))) ?_
    by_cases z : j = 0
    · exact Or.inr ⟨fun y => n8 a (root_mem y) a ha rfl, q z⟩
    · exact Or.inl z
  · have hn2 : LS (lkS (lkS (tk s 2) (n : Int) 2 c.root) (n : Int) 3 d.root) n = true := by rw [l2]; exact hn
    have e : getS (lkS (lkS (tk s 2) (n : Int) 2 c.root) (n : Int) 3 d.root) (n : Int) 4 = hasS (lkS (lkS (tk s 2) (n : Int) 2 c.root) (n : Int) 3 d.root) n 4 := get_nat (j := 4) hn2 (by decide)
    unfold wasS
    rw [e, g2]
    unfold lkF
    rw [if_neg (by omega), if_neg (by omega), if_neg (by omega), if_neg (by omega)]

theorem mk_rank {n i : Nat} {c d : Tr} : (mk n i c d).rank = min c.rank d.rank + 1 := by unfold mk; split <;> simp only [rank] <;> omega

/-- what lean does -/
theorem lean_tree {s : St} {n i : Nat} {c d : Tr} (ok : Ok s) (hc : Hp (LS s) (hasS s) c) (hd : Hp (LS s) (hasS s) d) (hnd : (n :: i :: (c.cells ++ d.cells)).Nodup) (hn : LS s n = true) (hi : LS s i = true)
    (h1 : hasS s n 1 = -1) (h6 : hasS s n 6 = (i : Int)) (h9 : hasS s i 9 = (n : Int)) :
    Hp (LS s) (hasS (leanS s (n : Int) c.root d.root)) (mk n i c d) ∧
    (∀ a j, (a ≠ n ∨ (j ≠ 2 ∧ j ≠ 3 ∧ j ≠ 4)) → (j ≠ 0 ∨ (c.root ≠ (a : Int) ∧ d.root ≠ (a : Int))) → hasS (leanS s (n : Int) c.root d.root) a j = hasS s a j) ∧
    leanB s (n : Int) c.root d.root = (hasS s n 4 != (((mk n i c d).rank : Nat) : Int)) := by
  have r1 := rk_tree hc
  have r2 := rk_tree hd
  rw [mk_rank]
  unfold leanS leanB mk
  rw [r1, r2]
  by_cases q : c.rank < d.rank
  · rw [if_pos q, if_pos (by omega), if_pos (by omega)]
    have hp : (n :: i :: (d.cells ++ c.cells)).Nodup := (List.Perm.nodup_iff (.cons n (.cons i List.perm_append_comm))).1 hnd
    obtain ⟨a, b, e⟩ := le_tree ok hd hc hp hn hi h1 h6 h9
    refine ⟨a, fun x j p q => b x j p (q.imp id fun z => z.symm), ?_⟩
    rw [e]
    congr 1
    omega
  · rw [if_neg q, if_neg (by omega), if_neg (by omega)]
    obtain ⟨a, b, e⟩ := le_tree ok hc hd hnd hn hi h1 h6 h9
    refine ⟨a, b, ?_⟩
    rw [e]
    congr 1
    omega
end Go.Proofs.Ythfdooigljkfiaa

/- Lists of what is held (a cell, a key, a serial) in memory; appended to a new one; without one of them. -/
namespace Go.Proofs.Ythfdooigljkfiaa
open Go.ChangeShapes Go.WideShapes Go.ChangeAt Go.RowKit

/-- what is held: a cell, its key, its serial -/
def h3 (x : Nat × Int × Int) : List Value := [.int .i64 (x.1 : Int), .int .i64 x.2.1, .int .i64 x.2.2]
theorem h3_len : ∀ x, (h3 x).length = 3 := fun _ => rfl
theorem h3_one : ∀ x, ∀ v ∈ h3 x, v.oneCell' = true := fun x v h => by
  simp [h3] at h
  rcases h with rfl | rfl | rfl <;> rfl
theorem info65 : (Try.prog.info? 55).map (fun i => (i.zero, i.size, i.bytes)) = some (some (.agg #[.int .i64 0, .int .i64 0, .int .i64 0]), 3, 24) := by kernel_rfl

/-- such a list, in a block of P -/
def Lz (P : Nat → Prop) (w : World) (v : Value) (L : List (Nat × Int × Int)) : Prop :=
  (v = .slice none 0 0 ∧ L = []) ∨ ∃ b cap, v = .slice (some ⟨b, 0, none⟩) L.length cap ∧ L.length ≤ cap ∧ cap ≤ maxLen ∧ b < w.heap.size ∧ P b ∧ ∀ (j : Nat) (u : Value), (row h3 L)[j]? = some u → w.cell? ⟨b, j, none⟩ = some u
/-- what is appended -/
def Sz (B : Nat) (w : World) (x : Value) (L : List (Nat × Int × Int)) : Prop :=
  (x = .slice none 0 0 ∧ L = []) ∨ ∃ b off c, x = .slice (some ⟨b, off, none⟩) L.length c ∧ b < B ∧ ∀ (j : Nat) (u : Value), (row h3 L)[j]? = some u → w.cell? ⟨b, off + j, none⟩ = some u

section
variable {P G : Nat → Prop} {w w' : World} {v : Value} {L : List (Nat × Int × Int)}
theorem Lz.nil (P : Nat → Prop) (w : World) : Lz P w (.slice none 0 0) [] := Or.inl ⟨rfl, rfl⟩
theorem Lz.kept (h : Lz P w v L) (k : Kept G w w') (hd : ∀ b, P b → ¬ G b) : Lz P w' v L := by
  rcases h with h | ⟨b, cap, e, h1, h2, h3, h4, h5⟩
  · exact Or.inl h
  · exact Or.inr ⟨b, cap, e, h1, h2, Nat.lt_of_lt_of_le h3 k.size, h4, fun j u hu => (k.cell (p := ⟨b, _, none⟩) h3 (hd b h4)).trans (h5 j u hu)⟩
theorem Lz.mono {Q : Nat → Prop} (h : Lz P w v L) (hd : ∀ b, b < w.heap.size → P b → Q b) : Lz Q w v L := by
  rcases h with h | ⟨b, cap, e, h1, h2, h3, h4, h5⟩
  · exact Or.inl h
  · exact Or.inr ⟨b, cap, e, h1, h2, h3, hd b h3 h4, h5⟩
theorem Lz.of_own {base : Nat} (h : w.ownsRow base 55 3 v L.length (row h3 L)) (hP : ∀ b, base ≤ b → b < w.heap.size → P b) : Lz P w v L := by
  rcases h.2 with ⟨rfl, h0⟩ | ⟨g, cap, cur, rfl, hb, hg, h1, h2, h3', h4⟩
  · exact Or.inl ⟨rfl, List.eq_nil_of_length_eq_zero h0⟩
  · refine Or.inr ⟨g, cap, rfl, h1, h2, lt_of_block hg, hP g hb (lt_of_block hg), fun j u hu => ?_⟩
    have hj : j < (row h3 L).length := (List.getElem?_eq_some_iff.1 hu).1
    rw [row_length h3_len] at hj
    rw [h.cellAt (g := g) (cap := cap) j hj, hu]
theorem Sz.kept {B : Nat} (h : Sz B w v L) (k : Below B w w') : Sz B w' v L := by
  rcases h with h | ⟨b, off, c, e, h1, h2⟩
  · exact Or.inl h
  · exact Or.inr ⟨b, off, c, e, h1, fun j u hu => (k.cell (p := ⟨b, _, none⟩) h1).trans (h2 j u hu)⟩
theorem Lz.src (h : Lz P w v L) : Sz w.heap.size w v L := by
  rcases h with h | ⟨b, cap, e, h1, h2, h3, h4, h5⟩
  · exact Or.inl h
  · exact Or.inr ⟨b, 0, cap, e, h3, fun j u hu => by rw [Nat.zero_add]; exact h5 j u hu⟩
theorem Lz.form (h : Lz P w v L) : ∃ a c, v = .slice a L.length c := by
  rcases h with ⟨rfl, rfl⟩ | ⟨b, cap, e, _⟩
  · exact ⟨_, _, rfl⟩
  · exact ⟨_, _, e⟩
/-- one of them -/
theorem Lz.at (h : Lz P w v L) {i : Nat} {x : Nat × Int × Int} (hx : L[i]? = some x) : ∃ b cap, v = .slice (some ⟨b, 0, none⟩) L.length cap ∧ L.length ≤ cap ∧ b < w.heap.size ∧ P b ∧
    w.cell? ⟨b, i * 3, none⟩ = some (.int .i64 (x.1 : Int)) ∧ w.cell? ⟨b, i * 3 + 1, none⟩ = some (.int .i64 x.2.1) ∧ w.cell? ⟨b, i * 3 + 2, none⟩ = some (.int .i64 x.2.2) := by
  rcases h with ⟨rfl, rfl⟩ | ⟨b, cap, e, h1, h2, h3', h4, h5⟩
  · simp at hx
  · refine ⟨b, cap, e, h1, h3', h4, h5 (i * 3) _ ?_, h5 (i * 3 + 1) _ ?_, h5 (i * 3 + 2) _ ?_⟩
    · rw [show i * 3 = i * 3 + 0 from rfl, row_get h3_len L i 0 x hx (by decide)]; rfl
    · rw [row_get h3_len L i 1 x hx (by decide)]; rfl
    · rw [row_get h3_len L i 2 x hx (by decide)]; rfl
end
theorem Kept.plain0 {w w' : World} (h : Kept (fun _ => False) w w') : Below w.heap.size w w' := h.below (Nat.le_refl _) fun _ e => e.elim

theorem append_sz {base B : Nat} (w : World) (ty : TypeId) (v x : Value) (n : Nat) (xs : List Value) (L : List (Nat × Int × Int)) (hown : w.ownsRow base 55 3 v n xs) (hx : Sz B w x L) (h63 : n + L.length ≤ 1000000) (hbase : base ≤ w.heap.size) :
    ∃ v' w', (Builtin.append_ #[28, 28] ty #[v, x]).run Try.prog w = .ok v' w' ∧ w'.ownsRow base 55 3 v' (n + L.length) (xs ++ row h3 L) ∧ w.grownBy w' v.ownBlock := by
  obtain ⟨i, hi, h0, h1, h2⟩ := info_parts info65
  rcases hx with ⟨rfl, rfl⟩ | ⟨b, off, c, rfl, hb, hc⟩
  · exact ⟨v, w, run_append_owned_none (P := Try.prog) w base 28 ty 55 i 3 Try.underlying28 hi v n xs hown, by simpa [row] using hown, ⟨rfl, rfl, rfl, Nat.le_refl _, fun _ _ _ => rfl⟩⟩
  · obtain ⟨v', w', hr, q1, q2, _⟩ := run_append_own (P := Try.prog) w base 28 ty 55 i _ 3 24 Try.underlying28 hi h0 h1 h2 rfl (by decide) v n xs hown ⟨b, off, none⟩ L.length c (row h3 L) (by rw [row_length h3_len]) (fun j u hu => by
      have := hc j u hu
      rwa [show (⟨b, off, none⟩ : Addr).add j = ⟨b, off + j, none⟩ by unfold Addr.add; split <;> simp_all]) (row_one h3_one L) (by simp [maxLen]; omega) (by omega) hbase
    exact ⟨v', w', hr, q1, q2⟩

theorem step_append_sz {ops : Array Oper} {o : Oper} {a : Act} {w : World} {K : Act → World → Prop} {Q : Exit → Act → World → Prop} {E : Prop} (hgd : o.guard = none) (s y : Operand)
    (ho : o.op = .call { callee := .builtin .append, args := #[s, y], argTypes := #[28, 28] })
    (base B : Nat) (v x : Value) (n : Nat) (xs : List Value) (L : List (Nat × Int × Int)) (hs : a.eval s = v) (hy : a.eval y = x) (hown : w.ownsRow base 55 3 v n xs) (hx : Sz B w x L)
    (h63 : n + L.length ≤ 1000000) (hbase : base ≤ w.heap.size)
    (h : ∀ v' w', w'.ownsRow base 55 3 v' (n + L.length) (xs ++ row h3 L) → w.grownBy w' v.ownBlock → K (a.put o.dst v') w') :
    if Region.wanted o (yielded ops a.tmps) = true then Oper.wp Try.prog o a w K Q else E := by
  have hw : Region.wanted o (yielded ops a.tmps) = true := by simp [Region.wanted, hgd]
  rw [if_pos hw]
  obtain ⟨v', w', hr, h2, h3⟩ := append_sz w o.type v x n xs L hown hx h63 hbase
  unfold Oper.wp execOp
  simp only [ho, resolve, invoke, builtin, Sem.run_bind, Sem.run_pure, Result.andThen_ok, List.map_toArray, List.map_cons, List.map_nil, hs, hy, hr]
  exact h v' w' h2 h3

theorem wpList_append_sz {ops : Array Oper} {rest : List Oper} {o : Oper} {a : Act} {w : World} {Q : Exit → Act → World → Prop} (hgd : o.guard = none) (s y : Operand)
    (ho : o.op = .call { callee := .builtin .append, args := #[s, y], argTypes := #[28, 28] })
    (base B : Nat) (v x : Value) (n : Nat) (xs : List Value) (L : List (Nat × Int × Int)) (hs : a.eval s = v) (hy : a.eval y = x) (hown : w.ownsRow base 55 3 v n xs) (hx : Sz B w x L)
    (h63 : n + L.length ≤ 1000000) (hbase : base ≤ w.heap.size)
    (h : ∀ v' w', w'.ownsRow base 55 3 v' (n + L.length) (xs ++ row h3 L) → w.grownBy w' v.ownBlock → wpList Try.prog ops Q rest (a.put o.dst v') w') : wpList Try.prog ops Q (o :: rest) a w := by
  refine wpList_plain hgd fun _ hK => ?_
  obtain ⟨v', w', hr, h2, h3⟩ := append_sz w o.type v x n xs L hown hx h63 hbase
  unfold Oper.wp execOp
  simp only [ho, resolve, invoke, builtin, Sem.run_bind, Sem.run_pure, Result.andThen_ok, List.map_toArray, List.map_cons, List.map_nil, hs, hy, hr]
  exact hK _ _ (h v' w' h2 h3)

set_option maxHeartbeats 2000000 in
/-- without one -/
theorem withoutN {P : Nat → Prop} (v : Value) (l1 l2 : List (Nat × Int × Int)) (x : Nat × Int × Int) (w : World) (h : Lz P w v (l1 ++ x :: l2)) (hl : (l1 ++ x :: l2).length ≤ 1000) :
    Calls Try.prog 27 #[v, .int .i64 (l1.length : Int)] w fun e w' => ∃ v', e = .returned v' ∧ w'.ownsRow w.heap.size 55 3 v' (l1.length + l2.length) (row h3 (l1 ++ l2)) ∧ Kept (fun _ => False) w w' := by
  rcases h with ⟨_, e⟩ | ⟨b, cap, rfl, h1, h2, h3', h4, h5⟩
  · simp at e
  have H5 := hid h5
  have hlen : (l1 ++ x :: l2).length = l1.length + (l2.length + 1) := by simp
  obtain ⟨n, hn⟩ : ∃ n, n = (l1 ++ x :: l2).length := ⟨_, rfl⟩
  rw [← hn] at h1 hl hlen ⊢
  unfold maxLen at h2
  clear h5 h4 hn
  have er : row h3 (l1 ++ x :: l2) = row h3 l1 ++ (h3 x ++ row h3 l2) := by rw [row_append]; rfl
  have el : (row h3 l1).length = l1.length * 3 := row_length h3_len l1
  have S1 : Hid (Sz w.heap.size w (.slice (some ⟨b, 0, none⟩) l1.length cap) l1) :=
    Or.inr ⟨b, 0, _, rfl, h3', fun j u hu => by
      have hj : j < (row h3 l1).length := (List.getElem?_eq_some_iff.1 hu).1
      rw [Nat.zero_add]
      exact H5.out j u (by rw [er, List.getElem?_append_left hj]; exact hu)⟩
  obtain ⟨i, hi⟩ : ∃ i, i = l1.length := ⟨_, rfl⟩
  have S2 : Hid (∀ j u, (row h3 l2)[j]? = some u → w.cell? ⟨b, (i + 1) * 3 + j, none⟩ = some u) := fun j u hu => by
    refine H5.out ((i + 1) * 3 + j) u ?_
    rw [er, List.getElem?_append_right (by rw [el]; omega), el, List.getElem?_append_right (by rw [h3_len]; omega), h3_len, ← hu]
    congr 1
    omega
  have HI := hid hi
  have HL := hid hlen
  rw [← hi] at hlen S1 ⊢
  have b0 : (0 : Int) ≤ (i : Int) := by omega
  have b1 : (i : Int) + 1 ≤ (n : Int) := by omega
  have b2 : (n : Int) ≤ (cap : Int) := by omega
  have b2' : (i : Int) ≤ (cap : Int) := by omega
  clear hi hlen er el H5
  obtain ⟨k, hk⟩ : ∃ k : Nat, (i : Int) + 1 = (k : Int) := ⟨i + 1, by omega⟩
  have HK := hid hk
  have c0 : (0 : Int) ≤ (k : Int) := by omega
  have c1 : (k : Int) ≤ (n : Int) := by omega
  have c2 : (k : Int) ≤ (cap : Int) := by omega
  clear b1
  have ek : i + 1 = k := by omega
  have HE := hid ek
  rw [ek] at S2
  have hnk := HL.out
  have hii := HI.out
  have e2 : n - k = l2.length := by omega
  have HN := hid e2
  have hwr : IntKind.i64.wrap (k : Int) = (k : Int) := IntWalk.i64_in _ (by omega)
  clear ek e2 hnk hii
  by_cases hc : cap = k
  · subst hc
    obtain rfl : n = cap := by omega
    have hz : n - n = 0 := Nat.sub_self n
    have S3 : Hid (Sz w.heap.size w (.slice (some ⟨b, 0, none⟩) 0 0) l2) := by
      have : l2 = [] := List.eq_nil_of_length_eq_zero (by have := HN.out; omega)
      subst this
      exact Or.inr ⟨b, 0, 0, rfl, h3', fun j u hu => by simp [row] at hu⟩
    clear S2
    go_enter Try.func27, Try.ntmps27
    go_wp2_with fail
    go_region_held3 (fun _ => True) (trivial)
      (first
        | (refine step_append_sz rfl (.tmp 5) (.tmp 8) rfl w.heap.size w.heap.size _ _ 0 [] l1 rfl rfl (by exact World.ownsRow_lit (base := w.heap.size) (e := 55) (size := 3) _ #[] 0 (Nat.le_refl _) (by simp [maxLen]) rfl) (by exact S1.out.kept (((Kept.refl (fun _ => False) w).drewN _).alloc _).plain0) (by have := HL.out; omega) (by simp) ?_; intro v1 w1 o1 g1; have K1 := hid ((((Kept.refl (fun _ => False) w).drewN _).alloc _).grown g1 (fun k hk => Or.inr (by cases hk; simp))); have O1 := hid o1; clear o1 g1)
        | (refine step_append_sz rfl (.tmp 9) (.tmp 13) rfl w.heap.size w.heap.size v1 _ (0 + l1.length) ([] ++ row h3 l1) l2 rfl rfl (by exact O1.out) (by exact S3.out.kept K1.out.plain0) (by have := HL.out; omega) (by exact K1.out.size) ?_; intro v2 w2 o2 g2; have K2 := hid (K1.out.grown g2 (fun k hk => Or.inr (O1.out.lt k hk).1)); have O2 := hid o2; clear o2 g2))
    go_wp2
    go_ret
    refine ⟨v2, rfl, ?_, K2.out⟩
    have := O2.out
    rw [row_append, HI.out]
    simpa using this
  · have S3 : Hid (Sz w.heap.size w (.slice (some ⟨b, k * 3, none⟩) (n - k) (cap - k)) l2) := Or.inr ⟨b, k * 3, _, by rw [HN.out], h3', S2.out⟩
    have hc2 : ¬ cap - k = 0 := by omega
    clear S2
    go_enter Try.func27, Try.ntmps27
    go_wp2_with fail
    go_region_held3 (fun _ => True) (trivial)
      (first
        | (refine step_append_sz rfl (.tmp 5) (.tmp 8) rfl w.heap.size w.heap.size _ _ 0 [] l1 rfl rfl (by exact World.ownsRow_lit (base := w.heap.size) (e := 55) (size := 3) _ #[] 0 (Nat.le_refl _) (by simp [maxLen]) rfl) (by exact S1.out.kept (((Kept.refl (fun _ => False) w).drewN _).alloc _).plain0) (by have := HL.out; omega) (by simp) ?_; intro v1 w1 o1 g1; have K1 := hid ((((Kept.refl (fun _ => False) w).drewN _).alloc _).grown g1 (fun k hk => Or.inr (by cases hk; simp))); have O1 := hid o1; clear o1 g1)
        | (refine step_append_sz rfl (.tmp 9) (.tmp 13) rfl w.heap.size w.heap.size v1 _ (0 + l1.length) ([] ++ row h3 l1) l2 rfl rfl (by exact O1.out) (by exact S3.out.kept K1.out.plain0) (by have := HL.out; omega) (by exact K1.out.size) ?_; intro v2 w2 o2 g2; have K2 := hid (K1.out.grown g2 (fun k hk => Or.inr (O1.out.lt k hk).1)); have O2 := hid o2; clear o2 g2))
    go_wp2
    go_ret
    refine ⟨v2, rfl, ?_, K2.out⟩
    have := O2.out
    rw [row_append, HI.out]
    simpa using this
end Go.Proofs.Ythfdooigljkfiaa

/- The laws' before, least, thicketbook.Same. -/
namespace Go.Proofs.Ythfdooigljkfiaa
open Go.ChangeShapes Go.WideShapes Go.ChangeAt Go.RowKit

/-- what is held, as a value -/
def hv (x : Nat × Int × Int) : Value := .agg #[.int .i64 (x.1 : Int), .int .i64 x.2.1, .int .i64 x.2.2]
/-- is x before y? -/
def befH (x y : Nat × Int × Int) : Bool := bef x.2.1 x.2.2 y.2.1 y.2.2 || (decide (x.2.1 = y.2.1 ∧ x.2.2 = y.2.2) && decide (x.1 < y.1))

theorem equal44 (x y : Int × Int) (w : World) : (Op.equalIn 10000 35 (.agg #[.int .i64 x.1, .int .i64 x.2]) (.agg #[.int .i64 y.1, .int .i64 y.2])).run Try.prog w = .ok (decide (x = y)) w := by
  have u2 := Try.underlying2
  have a2 := Try.isAgg2
  have z2 := Try.sizeOf2
  have hS : Try.prog.underlying 35 = some (.struct (Try.prog.fieldsOf 35)) := by kernel_rfl
  have hp : Try.prog.stoodInHeld 35 = false := by kernel_rfl
  rw [show (10000 : Nat) = 9999 + 1 from rfl, run_equalIn_agg w 9999 35 _ _ hS hp]
  simp only [Program.fieldsOf, Try.underlying35]
  go_simp
  obtain ⟨x1, x2⟩ := x
  obtain ⟨y1, y2⟩ := y
  by_cases h1 : x1 = y1 <;> by_cases h2 : x2 = y2 <;> simp [h1, h2]
theorem eql44 (a b c d : Int) (w : World) : (binOp .eql 35 (.agg #[.int .i64 a, .int .i64 b]) (.agg #[.int .i64 c, .int .i64 d])).run Try.prog w = .ok (.bool (decide (a = c ∧ b = d))) w := by
  rw [run_eql_struct, equal44 (a, b) (c, d)]
  simp
theorem neq44 (a b c d : Int) (w : World) : (binOp .neq 35 (.agg #[.int .i64 a, .int .i64 b]) (.agg #[.int .i64 c, .int .i64 d])).run Try.prog w = .ok (.bool (!decide (a = c ∧ b = d))) w := by
  rw [run_neq_struct, equal44 (a, b) (c, d)]
  simp

set_option maxHeartbeats 1000000 in
theorem beforeH (x y : Nat × Int × Int) (w : World) : Calls Try.prog 51 #[hv x, hv y] w fun e w' => e = .returned (.bool (befH x y)) ∧ Kept (fun _ => False) w w' := by
  obtain ⟨xc, xk, xs⟩ := x
  obtain ⟨yc, yk, ys⟩ := y
  unfold befH hv
  simp only
  have B := hid (fun w => refBefore_any xk xs yk ys w)
  generalize bef xk xs yk ys = b at *
  have hz : w.heap.size < w.heap.size + 1 + 1 + 1 := by omega
  have hz' : w.heap.size + 1 < w.heap.size + 1 + 1 + 1 := by omega
  cases b
  · have hE := fun w => eql44 xk xs yk ys w
    generalize hd : decide (xk = yk ∧ xs = ys) = d at *
    clear hd
    cases d
    · go_enter Try.func51, Try.ntmps51
      go_wp2_with fail
      refine (B.out _).mono ?_
      rintro e w1 ⟨rfl, c1, c2, rfl⟩
      go_wp2
      go_ret
      exact ⟨rfl, ((((Kept.refl _ _).alloc _).alloc _).alloc _).alloc _⟩
    · go_enter Try.func51, Try.ntmps51
      go_wp2_with fail
      refine (B.out _).mono ?_
      rintro e w1 ⟨rfl, c1, c2, rfl⟩
      go_wp2
      go_ret
      exact ⟨ret_bool (by simp), ((((Kept.refl _ _).alloc _).alloc _).alloc _).alloc _⟩
  · go_enter Try.func51, Try.ntmps51
    go_wp2_with fail
    refine (B.out _).mono ?_
    rintro e w1 ⟨rfl, c1, c2, rfl⟩
    go_wp2
    go_ret
    exact ⟨ret_bool (by simp), ((((Kept.refl _ _).alloc _).alloc _).alloc _).alloc _⟩

/-- where the least is, looked for up to i -/
def lstS (L : List (Nat × Int × Int)) : Nat → Nat
  | 0 => 0
  | i + 1 => match L[i + 1]?, L[lstS L i]? with
    | some x, some y => if befH x y = true then i + 1 else lstS L i
    | _, _ => lstS L i
theorem lstS_le (L : List (Nat × Int × Int)) : ∀ i, lstS L i ≤ i
  | 0 => Nat.le_refl _
  | i + 1 => by
    have := lstS_le L i
    unfold lstS
    split
    · split <;> omega
    · omega

set_option maxHeartbeats 2000000 in
theorem leastH {P : Nat → Prop} (v : Value) (L : List (Nat × Int × Int)) (w : World) (h : Lz P w v L) (hl : L.length ≤ 1000) :
    Calls Try.prog 32 #[v] w fun e w' => e = .returned (.int .i64 (lstS L (L.length - 1) : Nat)) ∧ Kept (fun _ => False) w w' := by
  have HH := hid h
  obtain ⟨va, vc, rfl⟩ := h.form
  clear h
  go_enter Try.func32, Try.ntmps32
  go_wp2
  go_loopw [3, 4] (fun kv iv wr => ∃ (i k : Nat), iv = .int .i64 i ∧ kv = .int .i64 k ∧ 1 ≤ i ∧ (i ≤ L.length ∨ i = 1) ∧ k = lstS L (i - 1) ∧ Kept (fun _ => False) w wr) (fun _ i _ => L.length - (intOf i).toNat)
  case atStart => exact ⟨1, 0, rfl, rfl, Nat.le_refl _, Or.inr rfl, rfl, Kept.refl _ _⟩
  case round =>
    obtain ⟨i, k, rfl, rfl, h1, h2, hk, kr⟩ := hrel
    have KR := hid kr
    have HK := hid hk
    have hki : k < i := by have := lstS_le L (i - 1); omega
    clear hk
    by_cases hlt : i < L.length
    · have hkl : k < L.length := by omega
      have hx : L[i]? = some (L[i]'hlt) := List.getElem?_eq_getElem (by omega)
      have hy : L[k]? = some (L[k]'hkl) := List.getElem?_eq_getElem (by omega)
      have HX := hid hx
      have HY := hid hy
      generalize L[i]'hlt = x at hx HX
      generalize L[k]'hkl = y at hy HY
      have HR : Hid (Lz P wr (.slice va L.length vc) L) := HH.out.kept kr (fun _ _ e => e)
      obtain ⟨b, cap, e, hc, hb, hP, x1, x2, x3⟩ := HR.out.at hx
      obtain ⟨b', cap', e', hc', hb', hP', y1, y2, y3⟩ := HR.out.at hy
      cases e
      cases e'
      have hlt' : (i : Int) < (L.length : Int) := by omega
      have hkl' : (k : Int) < (L.length : Int) := by omega
      have B := hid (fun w => beforeH x y w)
      unfold hv at B
      have S := hid (show lstS L i = if befH x y = true then i else k by
        cases i with
        | zero => omega
        | succ i =>
          have e1 := HK.out
          simp only [Nat.add_sub_cancel] at e1
          have e2 := HX.out
          have e3 := HY.out
          rw [e1] at e3
          unfold lstS
          rw [e2, e3]
          simp only
          rw [e1])
      clear hx hy HX HY HK kr hP hP' hc hc'
      generalize befH x y = bb at *
      cases bb
      · go_wp2_with fail
        go_region_held3 (fun w' => w'.cell? ⟨b, i * 3, none⟩ = some (.int .i64 (x.1 : Int)) ∧ w'.cell? ⟨b, i * 3 + 1, none⟩ = some (.int .i64 x.2.1) ∧ w'.cell? ⟨b, i * 3 + 2, none⟩ = some (.int .i64 x.2.2) ∧ w'.cell? ⟨b, k * 3, none⟩ = some (.int .i64 (y.1 : Int)) ∧ w'.cell? ⟨b, k * 3 + 1, none⟩ = some (.int .i64 y.2.1) ∧ w'.cell? ⟨b, k * 3 + 2, none⟩ = some (.int .i64 y.2.2)) (first | exact ⟨x1, x2, x3, y1, y2, y3⟩ | (simp [go_sem]; exact ⟨x1, x2, x3, y1, y2, y3⟩))
          (first
            | (go_at_call 51; refine (B.out _).mono ?_; rintro e w3 ⟨rfl, k3⟩; replace x1 := (k3.cell (p := ⟨b, i * 3, none⟩) hb (fun e => e)).trans x1; replace x2 := (k3.cell (p := ⟨b, i * 3 + 1, none⟩) hb (fun e => e)).trans x2; replace x3 := (k3.cell (p := ⟨b, i * 3 + 2, none⟩) hb (fun e => e)).trans x3; replace y1 := (k3.cell (p := ⟨b, k * 3, none⟩) hb (fun e => e)).trans y1; replace y2 := (k3.cell (p := ⟨b, k * 3 + 1, none⟩) hb (fun e => e)).trans y2; replace y3 := (k3.cell (p := ⟨b, k * 3 + 2, none⟩) hb (fun e => e)).trans y3; have K3 := hid k3; clear k3))
        go_wp2
        go_roundw
        case rel => exact ⟨i + 1, k, by go_num, rfl, by omega, Or.inl (by omega), by rw [Nat.add_sub_cancel]; exact (S.out.trans (if_neg (by decide))).symm, (KR.out.drewN _).trans' K3.out⟩
        case measure => simp [intOf]; omega
      · go_wp2_with fail
        go_region_held3 (fun w' => w'.cell? ⟨b, i * 3, none⟩ = some (.int .i64 (x.1 : Int)) ∧ w'.cell? ⟨b, i * 3 + 1, none⟩ = some (.int .i64 x.2.1) ∧ w'.cell? ⟨b, i * 3 + 2, none⟩ = some (.int .i64 x.2.2) ∧ w'.cell? ⟨b, k * 3, none⟩ = some (.int .i64 (y.1 : Int)) ∧ w'.cell? ⟨b, k * 3 + 1, none⟩ = some (.int .i64 y.2.1) ∧ w'.cell? ⟨b, k * 3 + 2, none⟩ = some (.int .i64 y.2.2)) (first | exact ⟨x1, x2, x3, y1, y2, y3⟩ | (simp [go_sem]; exact ⟨x1, x2, x3, y1, y2, y3⟩))
          (first
            | (go_at_call 51; refine (B.out _).mono ?_; rintro e w3 ⟨rfl, k3⟩; replace x1 := (k3.cell (p := ⟨b, i * 3, none⟩) hb (fun e => e)).trans x1; replace x2 := (k3.cell (p := ⟨b, i * 3 + 1, none⟩) hb (fun e => e)).trans x2; replace x3 := (k3.cell (p := ⟨b, i * 3 + 2, none⟩) hb (fun e => e)).trans x3; replace y1 := (k3.cell (p := ⟨b, k * 3, none⟩) hb (fun e => e)).trans y1; replace y2 := (k3.cell (p := ⟨b, k * 3 + 1, none⟩) hb (fun e => e)).trans y2; replace y3 := (k3.cell (p := ⟨b, k * 3 + 2, none⟩) hb (fun e => e)).trans y3; have K3 := hid k3; clear k3))
        go_wp2
        go_roundw
        case rel => exact ⟨i + 1, i, by go_num, rfl, by omega, Or.inl (by omega), by rw [Nat.add_sub_cancel, S.out]; simp, (KR.out.drewN _).trans' K3.out⟩
        case measure => simp [intOf]; omega
    · have hge : decide ((i : Int) < (L.length : Int)) = false := by simp; omega
      have E := hid (show lstS L (L.length - 1) = k by
        have e := HK.out
        rw [e]
        rcases h2 with h2 | h2
        · rw [show i = L.length by omega]
        · subst h2
          rw [show L.length - 1 = 0 by omega])
      go_wp2
      go_ret
      exact ⟨ret_int (by rw [E.out]), KR.out⟩

set_option maxHeartbeats 1000000 in
theorem sameN (a b : Value) (l m : List Nat) (hlm : l = m) (hl : l.length ≤ 1000000) (w : World) (ha : w.ownsRow 0 3 1 a l.length (row nat1 l)) (hb : w.ownsRow 0 3 1 b m.length (row nat1 m)) :
    Calls Try.prog 34 #[a, b] w fun e w' => e = .returned (.bool true) ∧ ∃ n, w' = w.drewN n := by
  subst hlm
  have HA := hid ha
  have HB := hid hb
  obtain ⟨aa, ac, rfl⟩ := own_form ha
  obtain ⟨ba, bc, rfl⟩ := own_form hb
  clear ha hb
  go_enter Try.func34, Try.ntmps34
  go_wp2
  go_loopw [5] (fun iv wr => ∃ (i n : Nat), iv = .int .i64 i ∧ i ≤ l.length ∧ wr = w.drewN n) (fun i _ => l.length - (intOf i).toNat)
  case atStart => exact ⟨0, 0, rfl, Nat.zero_le _, rfl⟩
  case round =>
    obtain ⟨i, n, rfl, hi, rfl⟩ := hrel
    by_cases hlt : i < l.length
    · have hx : l[i]? = some l[i] := List.getElem?_eq_getElem hlt
      obtain ⟨ga, ca, ea, hga, _, hka⟩ := own1_at HA.out nat1_len hx
      obtain ⟨gb, cb, eb, hgb, _, hkb⟩ := own1_at HB.out nat1_len hx
      cases ea
      cases eb
      generalize l[i] = x at hx hka hkb
      replace hka : w.cell? ⟨ga, i, none⟩ = some (.int .i64 (x : Int)) := hka
      replace hkb : w.cell? ⟨gb, i, none⟩ = some (.int .i64 (x : Int)) := hkb
      have hlt' : (i : Int) < (l.length : Int) := by omega
      clear hx
      go_wp2_with fail
      go_quiet (fail)
      go_wp2
      go_roundw
      case rel => exact ⟨i + 1, n + nq, by go_num, by omega, by simp [go_sem]⟩
      case measure => simp [intOf]; omega
    · obtain rfl : i = l.length := by omega
      go_wp2
      go_ret
      exact ⟨rfl, _, rfl⟩
end Go.Proofs.Ythfdooigljkfiaa

/- Room in an arena; a cell that is taken. (Out of stage 8's Tx: what speaks of no tree.) -/
namespace Go.Proofs.Ythfdooigljkfiaa
open Go.ChangeShapes Go.WideShapes Go.ChangeAt Go.RowKit

section
variable {s s' : St}
theorem cnt_sm (ok : Ok s) (h : Sm s s') : cnt s'.pl = cnt s.pl := by
  have h1 := ok.count
  have h2 := h.ok.count
  rw [h.back, h.len] at h2
  omega
theorem room_iff (ok : Ok s) : 0 ≤ nextS s ↔ cnt s.pl < s.most := by
  have h1 := ok.count
  have h2 := ok.fits
  unfold nextS
  split
  · rename_i a ha
    have : s.back.length ≠ 0 := fun e => by rw [List.eq_nil_of_length_eq_zero e] at ha; simp at ha
    constructor
    · intro _; omega
    · intro _; omega
  · rename_i hn
    have hb : s.back = [] := by simpa using hn
    rw [hb] at h1
    simp at h1
    split
    · rename_i q; constructor
      · intro z; omega
      · intro z; omega
    · constructor
      · intro _; omega
      · intro _; omega
theorem getLast_split {l : List Nat} {a : Nat} (h : l.getLast? = some a) : ∃ m, l = m ++ [a] := by
  rcases snoc_or l with rfl | ⟨m, x, rfl⟩
  · simp at h
  · simp at h; subst h; exact ⟨m, rfl⟩
/-- what Take does -/
theorem take_view (ok : Ok s) (hx : 0 ≤ nextS s) : ∃ n : Nat, nextS s = (n : Int) ∧ LS s n = false ∧ (∀ c, LS (takeS s) c = if c = n then true else LS s c) ∧ (∀ c j, hasS (takeS s) c j = if c = n then fr j else hasS s c j) ∧ cnt (takeS s).pl = cnt s.pl + 1 := by
  cases hb : s.back.getLast? with
  | some a =>
    have e1 : nextS s = (a : Int) := by unfold nextS; rw [hb]
    have e2 : takeS s = ⟨s.most, s.pl.set a (fr, true), s.back.dropLast, s.steps + 1⟩ := by unfold takeS; rw [hb]
    obtain ⟨x, hx⟩ := ok.free a (List.mem_of_getLast? hb)
    have hlt : a < s.pl.length := (List.getElem?_eq_some_iff.1 hx).1
    refine ⟨a, e1, ?_, fun c => ?_, fun c j => ?_, ?_⟩
    · unfold LS; rw [live_at (x := (x, false)) (by omega) (by simpa using hx)]
    · rw [e2]
      unfold LS liveS
      simp only [Int.toNat_natCast]
      by_cases q : c = a
      · subst q; rw [List.getElem?_set_self hlt]; simp
      · rw [List.getElem?_set_ne (fun z => q z.symm), if_neg q]
    · rw [e2]
      unfold hasS
      simp only
      by_cases q : c = a
      · subst q; rw [List.getElem?_set_self hlt]; simp
      · rw [List.getElem?_set_ne (fun z => q z.symm), if_neg q]
    · rw [e2]
      have := cnt_set s.pl a _ (fr, true) hx
      simp at this ⊢; omega
  | none =>
    have hne : ¬ s.pl.length = s.most := fun e => by
      unfold nextS at hx
      rw [hb] at hx
      simp only at hx
      rw [if_pos e] at hx
      omega
    have e1 : nextS s = (s.pl.length : Int) := by unfold nextS; rw [hb]; simp only; rw [if_neg hne]
    have e2 : takeS s = ⟨s.most, s.pl ++ [(fr, true)], s.back, s.steps + 1⟩ := by unfold takeS; rw [hb]; simp only; rw [if_neg hne]
    refine ⟨s.pl.length, e1, ?_, fun c => ?_, fun c j => ?_, ?_⟩
    · unfold LS; exact live_far (by omega)
    · rw [e2]
      unfold LS liveS
      simp only [Int.toNat_natCast]
      by_cases q : c = s.pl.length
      · subst q; simp
      · rw [if_neg q]
        by_cases z : c < s.pl.length
        · rw [List.getElem?_append_left z]
        · rw [List.getElem?_eq_none (by simp; omega), List.getElem?_eq_none (by omega)]
    · rw [e2]
      unfold hasS
      simp only
      by_cases q : c = s.pl.length
      · subst q; simp
      · rw [if_neg q]
        by_cases z : c < s.pl.length
        · rw [List.getElem?_append_left z]
        · rw [List.getElem?_eq_none (by simp; omega), List.getElem?_eq_none (by omega)]
    · rw [e2, cnt_append]; rfl
theorem take_full (hx : ¬ 0 ≤ nextS s) : takeS s = tick s := by
  unfold nextS at hx
  unfold takeS
  split at hx
  · omega
  · split at hx
    · rename_i z; rw [if_pos z]
    · omega

end
end Go.Proofs.Ythfdooigljkfiaa

/- The reference's Bits, Add, Limit. -/
namespace Go.Proofs.Ythfdooigljkfiaa
open Go.ChangeShapes Go.WideShapes Go.ChangeAt Go.RowKit

/-- how many binary digits n has -/
def bts (n : Nat) : Nat := if h : n = 0 then 0 else bts (n / 2) + 1
termination_by n
decreasing_by omega
theorem bts_zero : bts 0 = 0 := by unfold bts; rfl
theorem bts_half {n : Nat} (h : 0 < n) : bts n = bts (n / 2) + 1 := by rw [bts, dif_neg (by omega)]
theorem bts_lt : ∀ n : Nat, n < 2 ^ bts n := fun n => by
  induction n using Nat.strongRecOn with
  | ind n ih =>
    by_cases h : n = 0
    · subst h; simp [bts_zero]
    · have := ih (n / 2) (by omega)
      rw [bts_half (by omega), Nat.pow_succ]
      omega
theorem bts_le : ∀ (k n : Nat), n < 2 ^ k → bts n ≤ k
  | 0, n, h => by have : n = 0 := by simpa using h
                  subst this; rw [bts_zero]; exact Nat.le_refl _
  | k + 1, n, h => by
    by_cases h0 : n = 0
    · subst h0; rw [bts_zero]; omega
    · rw [bts_half (by omega)]
      have := bts_le k (n / 2) (by rw [Nat.pow_succ] at h; omega)
      omega

set_option maxHeartbeats 400000 in
theorem bitsR (n : Nat) (hn : n < 1048576) (w : World) :
    Calls Try.prog 61 #[.int .i64 (n : Int)] w fun e w' => e = .returned (.int .i64 (bts n : Nat)) ∧ w' = w := by
  have hb := bts_le 20 n hn
  go_enter Try.func61, Try.ntmps61
  go_wp2
  go_loop [0, 3] (fun m k => ∃ (x j : Nat), m = .int .i64 x ∧ k = .int .i64 j ∧ x < 1048576 ∧ j + bts x = bts n) (fun m _ => (intOf m).toNat)
  case atStart => exact ⟨n, 0, rfl, rfl, hn, by omega⟩
  case round =>
    obtain ⟨x, j, rfl, rfl, hx, hj⟩ := hrel
    have HJ := hid hj
    have hj20 : j ≤ 20 := by omega
    clear hj hb
    by_cases p : 0 < x
    · have p' : (0 : Int) < (x : Int) := by omega
      go_wp2
      go_round
      case rel => exact ⟨x / 2, j + 1, by go_num, by go_num, by omega, by have := HJ.out; rw [bts_half p] at this; omega⟩
      case measure => simp [intOf]; omega
    · obtain rfl : x = 0 := by omega
      go_wp2
      go_ret
      exact ⟨ret_int (by have := HJ.out; rw [bts_zero] at this; omega), rfl⟩

set_option maxHeartbeats 400000 in
theorem addR (a : Nat) (ha : a ≤ 1000000) (w : World) :
    Calls Try.prog 62 #[.int .i64 (a : Int), .int .i64 400] w fun e w' => e = .returned (.int .i64 ((a + 400 : Nat) : Int)) ∧ w' = w := by
  by_cases p : 0 < a
  · have p' : (0 : Int) < (a : Int) := by omega
    have q' : decide (9223372036854775807 - (a : Int) < 400) = false := by simp; omega
    go_enter Try.func62, Try.ntmps62
    go_wp2
    go_ret
    exact ⟨ret_int (by omega), rfl⟩
  · obtain rfl : a = 0 := by omega
    go_enter Try.func62, Try.ntmps62
    go_wp2
    go_ret
    exact ⟨ret_int (by omega), rfl⟩

set_option maxHeartbeats 400000 in
theorem limitR (n : Nat) (hn : n < 1048576) (w : World) :
    Calls Try.prog 44 #[.int .i64 500, .int .i64 400, .int .i64 (n : Int)] w fun e w' => e = .returned (.int .i64 ((500 + 400 * bts n : Nat) : Int)) ∧ w' = w := by
  have hb := bts_le 20 n hn
  have hc := hid (fun w => bitsR n hn w)
  generalize bts n = m at hb hc ⊢
  clear hn
  go_enter Try.func44, Try.ntmps44
  go_wp2_with fail
  refine (hc.out _).mono ?_
  rintro e w' ⟨rfl, rfl⟩
  clear hc
  go_wp2_with fail
  go_loop [7, 8] (fun s i => ∃ k : Nat, k ≤ m ∧ i = .int .i64 k ∧ s = .int .i64 ((500 + 400 * (m - k) : Nat) : Int)) (fun _ i => (intOf i).toNat)
  case atStart => exact ⟨m, Nat.le_refl _, rfl, by rw [Nat.sub_self]; rfl⟩
  case round =>
    obtain ⟨k, hk, rfl, rfl⟩ := hrel
    by_cases hlt : 0 < k
    · obtain ⟨z, hz⟩ : ∃ z, z = 500 + 400 * (m - k) := ⟨_, rfl⟩
      rw [← hz]
      have A := hid (fun w => addR z (by omega) w)
      have HZ := hid hz
      have hlt' : (0 : Int) < (k : Int) := by omega
      clear hz
      go_wp2_with fail
      refine (A.out _).mono ?_
      rintro e w' ⟨rfl, rfl⟩
      go_wp2
      go_round
      case rel => exact ⟨k - 1, by omega, by go_num, by rw [HZ.out]; congr 2; omega⟩
      case measure => simp [intOf]; omega
    · obtain rfl : k = 0 := by omega
      go_wp2
      go_ret
      exact ⟨ret_int (by simp), rfl⟩
end Go.Proofs.Ythfdooigljkfiaa
