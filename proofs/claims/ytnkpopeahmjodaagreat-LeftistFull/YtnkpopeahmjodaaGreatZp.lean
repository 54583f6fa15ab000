/- Paths in trees: a node, and the way up from it. -/
import Derived.Test.YtnkpopeahmjodaaGreatTw
namespace Go.Proofs.YtnkpopeahmjodaaGreat
open Tr

/-- one step up: is the way to the left of it? its node, its item, what is on the other side -/
structure Stp where
  left : Bool
  n : Nat
  i : Nat
  sib : Tr
def Stp.on (f : Stp) (t : Tr) : Tr := if f.left = true then nd f.n f.i t f.sib else nd f.n f.i f.sib t
/-- the same, with its children in their order -/
def Stp.mk' (f : Stp) (t : Tr) : Tr := if f.left = true then Tr.mk f.n f.i t f.sib else Tr.mk f.n f.i f.sib t
/-- the tree that t is in, the nearest step first -/
def plug : List Stp → Tr → Tr
  | [], t => t
  | f :: c, t => plug c (f.on t)
/-- the same, put in order on the way up -/
def fix : List Stp → Tr → Tr
  | [], t => t
  | f :: c, t => fix c (f.mk' t)
def pcells : List Stp → List Nat
  | [] => []
  | f :: c => f.n :: f.i :: (f.sib.cells ++ pcells c)
def pitems : List Stp → List Nat
  | [] => []
  | f :: c => f.i :: (f.sib.items ++ pitems c)

theorem on_cells (f : Stp) (t : Tr) : (f.on t).cells.Perm (f.n :: f.i :: (f.sib.cells ++ t.cells)) := by
  unfold Stp.on; split
  · exact .cons _ (.cons _ List.perm_append_comm)
  · exact .refl _
theorem on_items (f : Stp) (t : Tr) : (f.on t).items.Perm (f.i :: (f.sib.items ++ t.items)) := by
  unfold Stp.on; split
  · exact .cons _ List.perm_append_comm
  · exact .refl _
theorem mk_cells' (f : Stp) (t : Tr) : (f.mk' t).cells.Perm (f.n :: f.i :: (f.sib.cells ++ t.cells)) := by
  unfold Stp.mk'; split
  · exact mk_cells.trans (.cons _ (.cons _ List.perm_append_comm))
  · exact mk_cells
theorem mk_items' (f : Stp) (t : Tr) : (f.mk' t).items.Perm (f.i :: (f.sib.items ++ t.items)) := by
  unfold Stp.mk'; split
  · exact mk_items.trans (.cons _ List.perm_append_comm)
  · exact mk_items
theorem plug_cells : ∀ (c : List Stp) (t : Tr), (plug c t).cells.Perm (pcells c ++ t.cells)
  | [], t => .refl _
  | f :: c, t => by
    refine (plug_cells c (f.on t)).trans ?_
    have h := on_cells f t
    rw [List.perm_iff_count] at h ⊢
    intro a
    have := h a
    simp only [pcells, List.count_append, List.count_cons] at this ⊢
    omega
theorem plug_items : ∀ (c : List Stp) (t : Tr), (plug c t).items.Perm (pitems c ++ t.items)
  | [], t => .refl _
  | f :: c, t => by
    refine (plug_items c (f.on t)).trans ?_
    have h := on_items f t
    rw [List.perm_iff_count] at h ⊢
    intro a
    have := h a
    simp only [pitems, List.count_append, List.count_cons] at this ⊢
    omega
theorem fix_cells : ∀ (c : List Stp) (t : Tr), (fix c t).cells.Perm (pcells c ++ t.cells)
  | [], t => .refl _
  | f :: c, t => by
    refine (fix_cells c (f.mk' t)).trans ?_
    have h := mk_cells' f t
    rw [List.perm_iff_count] at h ⊢
    intro a
    have := h a
    simp only [pcells, List.count_append, List.count_cons] at this ⊢
    omega
theorem fix_items : ∀ (c : List Stp) (t : Tr), (fix c t).items.Perm (pitems c ++ t.items)
  | [], t => .refl _
  | f :: c, t => by
    refine (fix_items c (f.mk' t)).trans ?_
    have h := mk_items' f t
    rw [List.perm_iff_count] at h ⊢
    intro a
    have := h a
    simp only [pitems, List.count_append, List.count_cons] at this ⊢
    omega
theorem plug_append : ∀ (c d : List Stp) (t : Tr), plug (c ++ d) t = plug d (plug c t)
  | [], _, _ => rfl
  | f :: c, d, t => plug_append c d (f.on t)
/-- each item has its way up -/
theorem find_path : ∀ (t : Tr) (i : Nat), i ∈ t.items → ∃ c n l r, t = plug c (nd n i l r)
  | lf, i, h => by simp [items] at h
  | nd m j a b, i, h => by
    simp only [items, List.mem_cons, List.mem_append] at h
    rcases h with rfl | h | h
    · exact ⟨[], m, a, b, rfl⟩
    · obtain ⟨c, n, l, r, e⟩ := find_path a i h
      exact ⟨c ++ [⟨true, m, j, b⟩], n, l, r, by rw [plug_append, ← e]; rfl⟩
    · obtain ⟨c, n, l, r, e⟩ := find_path b i h
      exact ⟨c ++ [⟨false, m, j, a⟩], n, l, r, by rw [plug_append, ← e]; rfl⟩
/-- in order on the way up: the shape -/
theorem fix_lft : ∀ (c : List Stp) (t : Tr), (∀ f ∈ c, f.sib.Lft) → t.Lft → (fix c t).Lft
  | [], t, _, h => h
  | f :: c, t, hs, h => by
    refine fix_lft c (f.mk' t) (fun g hg => hs g (List.mem_cons_of_mem _ hg)) ?_
    have := hs f (by simp)
    unfold Stp.mk'; split
    · exact mk_lft h this
    · exact mk_lft this h
/-- a tree that is in order stays as it is -/
theorem fix_same : ∀ (c : List Stp) (t : Tr), (plug c t).Lft → fix c t = plug c t
  | [], t, _ => rfl
  | f :: c, t, h => by
    have hl : (f.on t).Lft := by
      clear fix_same
      revert h
      show (plug c (f.on t)).Lft → _
      generalize f.on t = u
      intro h
      induction c generalizing u with
      | nil => exact h
      | cons g c ih =>
        have := ih (g.on u) h
        unfold Stp.on at this
        split at this
        · exact this.2.1
        · exact this.2.2
    have e : f.mk' t = f.on t := by
      unfold Stp.mk' Stp.on at *
      split
      · rename_i q
        rw [if_pos q] at hl
        unfold Tr.mk
        rw [if_neg (by have := hl.1; omega)]
      · rename_i q
        rw [if_neg q] at hl
        unfold Tr.mk
        rw [if_neg (by have := hl.1; omega)]
    show fix c (f.mk' t) = plug c (f.on t)
    rw [e]
    exact fix_same c (f.on t) h
theorem plug_od {lt : Nat → Nat → Bool} : ∀ (c : List Stp) (t : Tr), (plug c t).Od lt → t.Od lt
  | [], _, h => h
  | f :: c, t, h => by
    have := plug_od c (f.on t) h
    unfold Stp.on at this
    split at this
    · exact this.2.1
    · exact this.2.2
/-- another tree, of items that were there, in its place: the order stays -/
theorem fix_od {lt : Nat → Nat → Bool} : ∀ (c : List Stp) (t t' : Tr), (plug c t).Od lt → t'.Od lt → (∀ j ∈ t'.items, j ∈ t.items) → (fix c t').Od lt
  | [], _, _, _, h, _ => h
  | f :: c, t, t', h, h', hs => by
    have ho := plug_od c (f.on t) h
    refine fix_od c (f.on t) (f.mk' t') h ?_ ?_
    · unfold Stp.on at ho
      unfold Stp.mk'
      split at ho
      · rename_i q
        rw [if_pos q]
        refine mk_od (fun j hj => ho.1 j ?_) h' ho.2.2
        rw [List.mem_append] at hj ⊢
        exact hj.imp (hs j) id
      · rename_i q
        rw [if_neg q]
        refine mk_od (fun j hj => ho.1 j ?_) ho.2.1 h'
        rw [List.mem_append] at hj ⊢
        exact hj.imp id (hs j)
    · intro j hj
      rw [(mk_items' f t').mem_iff] at hj
      rw [(on_items f t).mem_iff]
      simp only [List.mem_cons, List.mem_append] at hj ⊢
      rcases hj with hj | hj | hj
      · exact Or.inl hj
      · exact Or.inr (Or.inl hj)
      · exact Or.inr (Or.inr (hs j hj))
theorem mk_rank' (f : Stp) (t : Tr) : (f.mk' t).rank = min t.rank f.sib.rank + 1 := by
  unfold Stp.mk'; split
  · rw [mk_rank]
  · rw [mk_rank]; omega
theorem on_rank {f : Stp} {t : Tr} (h : (f.on t).Lft) : (f.on t).rank = min t.rank f.sib.rank + 1 := by
  unfold Stp.on at h ⊢
  split
  · rename_i q
    rw [if_pos q] at h
    have := h.1
    simp only [Tr.rank]; omega
  · rename_i q
    rw [if_neg q] at h
    have := h.1
    simp only [Tr.rank]; omega
/-- a Rank that changes is one more than the one below -/
theorem rank_step {f : Stp} {t t' : Tr} (h : (f.on t).Lft) (hr : t'.rank < t.rank) (hc : (f.mk' t').rank ≠ (f.on t).rank) : (f.mk' t').rank = t'.rank + 1 ∧ (f.mk' t').rank < (f.on t).rank := by
  rw [mk_rank', on_rank h] at *
  omega
theorem plug_lft : ∀ (c : List Stp) (t : Tr), (plug c t).Lft → t.Lft
  | [], _, h => h
  | f :: c, t, h => by
    have := plug_lft c (f.on t) h
    unfold Stp.on at this
    split at this
    · exact this.2.1
    · exact this.2.2
/-- another tree of the same Rank in its place: the shape stays -/
theorem plug_like : ∀ (c : List Stp) (t t' : Tr), (plug c t).Lft → t'.Lft → t'.rank = t.rank → (plug c t').Lft
  | [], _, _, _, h, _ => h
  | f :: c, t, t', h, h', hr => by
    have hl := plug_lft c (f.on t) h
    refine plug_like c (f.on t) (f.on t') h ?_ ?_
    · unfold Stp.on at hl ⊢
      split at hl
      · rename_i q
        rw [if_pos q]
        exact ⟨by rw [hr]; exact hl.1, h', hl.2.2⟩
      · rename_i q
        rw [if_neg q]
        exact ⟨by rw [hr]; exact hl.1, hl.2.1, h'⟩
    · unfold Stp.on
      split
      · simp only [Tr.rank]
      · simp only [Tr.rank, hr]
/-- detach's way up: it ends where no Rank changes -/
def detT : List Stp → Tr → Tr → Tr
  | [], _, t' => t'
  | f :: c, t, t' => if (f.mk' t').rank = (f.on t).rank then plug c (f.mk' t') else detT c (f.on t) (f.mk' t')
/-- and that is the tree in order -/
theorem detT_fix : ∀ (c : List Stp) (t t' : Tr), (plug c t).Lft → t'.Lft → detT c t t' = fix c t'
  | [], _, _, _, _ => rfl
  | f :: c, t, t', h, h' => by
    have hl := plug_lft c (f.on t) h
    have hm : (f.mk' t').Lft := by
      unfold Stp.on at hl
      unfold Stp.mk'
      split at hl
      · rename_i q; rw [if_pos q]; exact mk_lft h' hl.2.2
      · rename_i q; rw [if_neg q]; exact mk_lft hl.2.1 h'
    unfold detT
    split
    · rename_i q
      exact (fix_same c (f.mk' t') (plug_like c (f.on t) (f.mk' t') h hm q)).symm
    · exact detT_fix c (f.on t) (f.mk' t') h hm
end Go.Proofs.YtnkpopeahmjodaaGreat
