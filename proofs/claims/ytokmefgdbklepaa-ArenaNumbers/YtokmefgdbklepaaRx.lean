/- The document's arena in the midst of its Take: all but cell c as it is to be. -/
import Derived.Test.YtokmefgdbklepaaRh
namespace Go.Proofs.Ytokmefgdbklepaa
open Go.ChangeShapes Go.WideShapes Go.ChangeAt Go.RowKit

def one1 (v : Value) : List Value := [v]
theorem one1_len : ∀ v, (one1 v).length = 1 := fun _ => rfl
/-- the slice of a cell's numbers -/
def slv (g : Nat) : Value := .slice (some ⟨g, 0, none⟩) 10 10
theorem row_slv (gs : List Nat) : row one1 (gs.map slv) = row sl10 gs := by
  induction gs with
  | nil => rfl
  | cons g r ih => simp only [List.map_cons, row, ih]; rfl

structure RawX (w : World) (pr : Nat) (fv iv bv : Value) (gs : List Nat) (vs : List Value) (c : Nat) (s : St) : Prop where
  blk : w.heap[pr]? = some (.cells #[.int .i64 s.most, fv, iv, bv, .int .i64 s.steps] 52 (0, 0))
  fs : w.ownsRow 0 41 1 fv vs.length (row one1 vs)
  ins : w.ownsRow 0 4 1 iv s.pl.length (row in1 s.pl)
  back : w.ownsRow 0 3 1 bv s.back.length (row nat1 s.back)
  len : gs.length = s.pl.length
  lenv : vs.length = s.pl.length
  vals : ∀ (i g : Nat), i ≠ c → gs[i]? = some g → vs[i]? = some (slv g)
  cells : ∀ (i g : Nat) (x : ((Nat → Int) × Bool)), i ≠ c → gs[i]? = some g → s.pl[i]? = some x → w.heap[g]? = some (.cells (ten x).toArray 2 (0, 0))
  once : ∀ (i j g : Nat), i ≠ c → j ≠ c → gs[i]? = some g → gs[j]? = some g → i = j

section
variable {w w' : World} {F : Nat → Prop} {pr c : Nat} {fv iv bv : Value} {gs : List Nat} {vs : List Value} {s : St}
theorem RawX.fields (h : RawX w pr fv iv bv gs vs c s) : pr < w.heap.size ∧ w.cell? ⟨pr, 0, none⟩ = some (.int .i64 s.most) ∧ w.cell? ⟨pr, 1, none⟩ = some fv ∧ w.cell? ⟨pr, 2, none⟩ = some iv ∧ w.cell? ⟨pr, 3, none⟩ = some bv ∧ w.cell? ⟨pr, 4, none⟩ = some (.int .i64 s.steps) :=
  ⟨lt_of_block h.blk, blk_cell h.blk rfl, blk_cell h.blk rfl, blk_cell h.blk rfl, blk_cell h.blk rfl, blk_cell h.blk rfl⟩
theorem RawX.plain (h : RawX w pr fv iv bv gs vs c s) (k : Kept (fun _ => False) w w') : RawX w' pr fv iv bv gs vs c s :=
  ⟨(k.block pr (lt_of_block h.blk) fun e => e).trans h.blk, own_plain h.fs k, own_plain h.ins k, own_plain h.back k, h.len, h.lenv, h.vals, fun i g x hi hg hx => (k.block g (lt_of_block (h.cells i g x hi hg hx)) fun e => e).trans (h.cells i g x hi hg hx), h.once⟩
/-- cell c is laid -/
theorem RawX.fill {fb ib fn inn fc ic B : Nat} (h : RawX w pr (.slice (some ⟨fb, 0, none⟩) fn fc) (.slice (some ⟨ib, 0, none⟩) inn ic) bv gs vs c s) (hc : c < s.pl.length) (k : Kept (fun _ => False) w w') (hB : w.heap.size ≤ B) (hb : w'.heap[B]? = some (.cells (ten (fr, true)).toArray 2 (0, 0))) :
    RawR ((w'.setCell ⟨fb, c, none⟩ (slv B)).setCell ⟨ib, c, none⟩ (.bool true)) pr (.slice (some ⟨fb, 0, none⟩) fn fc) (.slice (some ⟨ib, 0, none⟩) inn ic) bv (gs.set c B) ⟨s.most, s.pl.set c (fr, true), s.back, s.steps⟩ := by
  have hX := h.plain k
  have hfn : fn = vs.length := by
    rcases hX.fs.2 with ⟨e, _⟩ | ⟨g', cap', cur, e, _⟩
    · cases e
    · cases e; rfl
  have hin : inn = s.pl.length := by
    rcases hX.ins.2 with ⟨e, _⟩ | ⟨g', cap', cur, e, _⟩
    · cases e
    · cases e; rfl
  subst hfn
  subst hin
  have nfp : fb ≠ pr := fun e => own_ne_block hX.fs hX.blk (by decide) (by rw [e]; rfl)
  have nip : ib ≠ pr := fun e => own_ne_block hX.ins hX.blk (by decide) (by rw [e]; rfl)
  have nfi : (Value.slice (some ⟨fb, 0, none⟩) vs.length fc).ownBlock ≠ some ib := ne_of_own hX.fs hX.ins (by decide) rfl
  have nif : (Value.slice (some ⟨ib, 0, none⟩) s.pl.length ic).ownBlock ≠ some fb := ne_of_own hX.ins hX.fs (by decide) rfl
  have nbf : bv.ownBlock ≠ some fb := ne_of_own hX.back hX.fs (by decide) rfl
  have nbi : bv.ownBlock ≠ some ib := ne_of_own hX.back hX.ins (by decide) rfl
  have hcv : c < vs.length := by rw [h.lenv]; exact hc
  have hcg : c < gs.length := by rw [h.len]; exact hc
  have hs1 := (hX.fs.stored c (slv B)).1
  have hr1 := row_set one1_len vs c 0 vs[c] (slv B) (slv B) (List.getElem?_eq_getElem hcv) (by decide) rfl
  simp only [Nat.mul_one, Nat.add_zero] at hr1
  rw [hr1] at hs1
  have hvs : vs.set c (slv B) = (gs.set c B).map slv := by
    apply List.ext_getElem?
    intro i
    by_cases e : c = i
    · subst e
      rw [List.getElem?_set_self hcv, List.getElem?_map, List.getElem?_set_self hcg]; rfl
    · rw [List.getElem?_set_ne e, List.getElem?_map, List.getElem?_set_ne e]
      by_cases hi : i < gs.length
      · rw [h.vals i _ (fun q => e q.symm) (List.getElem?_eq_getElem hi), List.getElem?_eq_getElem hi]; rfl
      · rw [List.getElem?_eq_none (by rw [h.lenv, ← h.len]; omega), List.getElem?_eq_none (by omega)]; rfl
  rw [hvs, row_slv] at hs1
  have hs2 := (ownsRow_setCell_other (a := ⟨fb, c, none⟩) hX.ins nif (slv B))
  have hs3 := (hs2.stored c (.bool true)).1
  have hr3 := row_set in1_len s.pl c 0 s.pl[c] (fr, true) (.bool true) (List.getElem?_eq_getElem hc) (by decide) rfl
  simp only [Nat.mul_one, Nat.add_zero] at hr3
  rw [hr3] at hs3
  have hBlt := lt_of_block hb
  have hgB : ∀ i g, i ≠ c → gs[i]? = some g → g ≠ B := fun i g hi hg e => by
    have hip : i < s.pl.length := by rw [← h.len]; exact (List.getElem?_eq_some_iff.1 hg).1
    have := lt_of_block (h.cells i g _ hi hg (List.getElem?_eq_getElem hip))
    omega
  refine ⟨blk_other (blk_other hX.blk (Ne.symm nfp)) (Ne.symm nip), ?_, by simpa using hs3, ownsRow_setCell_other (a := ⟨ib, c, none⟩) (ownsRow_setCell_other (a := ⟨fb, c, none⟩) hX.back nbf _) nbi _, by simpa using h.len, fun i g x hg hx => ?_, fun i j g hi hj => ?_⟩
  · have q := ownsRow_setCell_other (a := ⟨ib, c, none⟩) hs1 (by simpa [Value.ownBlock] using nfi) (.bool true)
    rw [List.length_set, h.len, ← h.lenv]
    exact q
  · have two : ∀ {g : Nat} {cs : Array Value}, w'.heap[g]? = some (.cells cs 2 (0, 0)) → ((w'.setCell ⟨fb, c, none⟩ (slv B)).setCell ⟨ib, c, none⟩ (.bool true)).heap[g]? = some (.cells cs 2 (0, 0)) := fun {g cs} q =>
      blk_other (blk_other q (fun e => own_ne_block hX.fs q (by decide) (by rw [e]; rfl))) (fun e => own_ne_block hX.ins q (by decide) (by rw [e]; rfl))
    by_cases e : c = i
    · subst e
      rw [List.getElem?_set_self hcg] at hg
      rw [List.getElem?_set_self hc] at hx
      injection hg with hg
      injection hx with hx
      subst hg
      subst hx
      exact two hb
    · rw [List.getElem?_set_ne e] at hg hx
      exact two (hX.cells i g x (fun q => e q.symm) hg hx)
  · by_cases e : c = i
    · subst e
      rw [List.getElem?_set_self hcg] at hi
      injection hi with hi
      subst hi
      by_cases e' : c = j
      · exact e'
      · rw [List.getElem?_set_ne e'] at hj
        exact absurd rfl (hgB j _ (fun q => e' q.symm) hj)
    · rw [List.getElem?_set_ne e] at hi
      by_cases e' : c = j
      · subst e'
        rw [List.getElem?_set_self hcg] at hj
        injection hj with hj
        subst hj
        exact absurd rfl (hgB i _ (fun q => e q.symm) hi)
      · rw [List.getElem?_set_ne e'] at hj
        exact h.once i j g (fun q => e q.symm) (fun q => e' q.symm) hi hj
/-- from the arena itself -/
theorem RawR.toX (h : RawR w pr fv iv bv gs s) (c : Nat) : RawX w pr fv iv bv gs (gs.map slv) c s :=
  ⟨h.blk, by rw [row_slv, List.length_map]; exact h.fs, h.ins, h.back, h.len, by rw [List.length_map]; exact h.len, fun i g _ hg => by rw [List.getElem?_map, hg]; rfl, fun i g x _ hg hx => h.cells i g x hg hx, fun i j g _ _ hi hj => h.once i j g hi hj⟩
/-- one place more in both rows -/
theorem RawR.newX {g1 g2 p1 p2 : Nat} (h : RawR w pr fv iv bv gs s) (k : Kept (fun k => fv.ownBlock = some k ∨ iv.ownBlock = some k) w w')
    (o1 : w'.ownsRow 0 41 1 (.slice (some ⟨g1, 0, none⟩) (s.pl.length + 1) p1) (s.pl.length + 1) (row sl10 gs ++ [.slice none 0 0])) (o2 : w'.ownsRow 0 4 1 (.slice (some ⟨g2, 0, none⟩) (s.pl.length + 1) p2) (s.pl.length + 1) (row in1 s.pl ++ [.bool false])) :
    RawX ((w'.setCell ⟨pr, 1, none⟩ (.slice (some ⟨g1, 0, none⟩) (s.pl.length + 1) p1)).setCell ⟨pr, 2, none⟩ (.slice (some ⟨g2, 0, none⟩) (s.pl.length + 1) p2)) pr (.slice (some ⟨g1, 0, none⟩) (s.pl.length + 1) p1) (.slice (some ⟨g2, 0, none⟩) (s.pl.length + 1) p2) bv (gs ++ [0]) (gs.map slv ++ [.slice none 0 0]) s.pl.length ⟨s.most, s.pl ++ [cl0], s.back, s.steps⟩ := by
  have hb : w'.heap[pr]? = w.heap[pr]? := k.block pr (lt_of_block h.blk) fun q => q.elim (own_ne_block h.fs h.blk (by decide)) (own_ne_block h.ins h.blk (by decide))
  have hblk := hb.trans h.blk
  have hbk : w'.ownsRow 0 3 1 bv s.back.length (row nat1 s.back) := own_kept h.back k fun i hi q => q.elim (fun q => ne_of_own h.back h.fs (by decide) q hi) (fun q => ne_of_own h.back h.ins (by decide) q hi)
  have n1 := own_ne_block o1 hblk (by decide)
  have n2 := own_ne_block o2 hblk (by decide)
  have n3 := own_ne_block hbk hblk (by decide)
  have s1 := ownsRow_setCell_other (a := ⟨pr, 2, none⟩) (ownsRow_setCell_other (a := ⟨pr, 1, none⟩) o1 n1 (.slice (some ⟨g1, 0, none⟩) (s.pl.length + 1) p1)) n1 (.slice (some ⟨g2, 0, none⟩) (s.pl.length + 1) p2)
  have s2 := ownsRow_setCell_other (a := ⟨pr, 2, none⟩) (ownsRow_setCell_other (a := ⟨pr, 1, none⟩) o2 n2 (.slice (some ⟨g1, 0, none⟩) (s.pl.length + 1) p1)) n2 (.slice (some ⟨g2, 0, none⟩) (s.pl.length + 1) p2)
  have s3 := ownsRow_setCell_other (a := ⟨pr, 2, none⟩) (ownsRow_setCell_other (a := ⟨pr, 1, none⟩) hbk n3 (.slice (some ⟨g1, 0, none⟩) (s.pl.length + 1) p1)) n3 (.slice (some ⟨g2, 0, none⟩) (s.pl.length + 1) p2)
  have sb := blk_set (j := 2) (u := .slice (some ⟨g2, 0, none⟩) (s.pl.length + 1) p2) (blk_set (j := 1) (u := .slice (some ⟨g1, 0, none⟩) (s.pl.length + 1) p1) hblk)
  refine ⟨by simpa using sb, ?_, ?_, s3, by simp [h.len], by simp [h.len], fun i g hi hg => ?_, fun i g x hi hg hx => ?_, fun i j g hi hj hgi hgj => ?_⟩
  · rw [row_append, row_slv, List.length_append, List.length_map, h.len]
    exact s1
  · simp only [row_snoc, List.length_append, List.length_cons, List.length_nil]
    exact s2
  · have hlt : i < gs.length := by
      have := (List.getElem?_eq_some_iff.1 hg).1
      simp at this
      rw [h.len] at this ⊢
      omega
    rw [List.getElem?_append_left hlt] at hg
    rw [List.getElem?_append_left (by simpa using hlt), List.getElem?_map, hg]; rfl
  · have hlt : i < gs.length := by
      have := (List.getElem?_eq_some_iff.1 hg).1
      simp at this
      rw [h.len] at this ⊢
      omega
    rw [List.getElem?_append_left hlt] at hg
    rw [List.getElem?_append_left (by rw [← h.len]; exact hlt)] at hx
    have hc := h.cells i g x hg hx
    have hk := (k.block g (lt_of_block hc) fun q => q.elim (own_ne_block h.fs hc (by decide)) (own_ne_block h.ins hc (by decide))).trans hc
    have hp : g ≠ pr := blk_ne hk hblk (by decide)
    exact blk_other (blk_other hk hp) hp
  · have hli : i < gs.length := by
      have := (List.getElem?_eq_some_iff.1 hgi).1
      simp at this
      rw [h.len] at this ⊢
      omega
    have hlj : j < gs.length := by
      have := (List.getElem?_eq_some_iff.1 hgj).1
      simp at this
      rw [h.len] at this ⊢
      omega
    rw [List.getElem?_append_left hli] at hgi
    rw [List.getElem?_append_left hlj] at hgj
    exact h.once i j g hgi hgj
end
end Go.Proofs.Ytokmefgdbklepaa
