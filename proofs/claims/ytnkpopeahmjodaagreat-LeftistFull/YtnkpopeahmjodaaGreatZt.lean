/- Cut, as it turns two heaps. -/
import Derived.Test.YtnkpopeahmjodaaGreatZs
namespace Go.Proofs.YtnkpopeahmjodaaGreat
open Go.ChangeShapes Go.WideShapes Go.ChangeAt Go.RowKit
open Tr

section
variable {s : St} {t u : Tr} {L M l1 l2 : List (Nat × Int × Int)} {x : Nat × Int × Int}
/-- Cut -/
theorem cut_inv (h : Inv s t u L M) (hz : L.length + M.length < 100000) (hL : L = l1 ++ x :: l2) :
    ∃ n : Nat, cellS s (x.1 : Int) 9 = (n : Int) ∧ Cl t.root ∧
    ((rootS s t.root = (n : Int) ∧ ∃ km, km ≤ 2 * bts L.length + 1 ∧ (∀ k, mOk km (rmS (tk s k) (n : Int)) (lcS s (n : Int)) (rcS s (n : Int))) ∧
        ∀ k, ∃ t', (meldS km (rmS (tk s k) (n : Int)) (lcS s (n : Int)) (rcS s (n : Int))).1 = t'.root ∧ Inv1 (meldS km (rmS (tk s k) (n : Int)) (lcS s (n : Int)) (rcS s (n : Int))).2 t' u (l1 ++ l2) M x.1) ∨
     (2 ≤ L.length ∧ rootS s t.root ≠ (n : Int) ∧ belB s t.root (n : Int) = true ∧ (∀ k, dOk (bts L.length + 2) (setS (tk (tk s k) 1) (n : Int) 0 (-1)) (cellS s (n : Int) 0)) ∧
      (∀ k, mOk (2 * bts L.length + 1) (rmS (dS (bts L.length + 2) s (n : Int) k) (n : Int)) (lcS (dS (bts L.length + 2) s (n : Int) k) (n : Int)) (rcS (dS (bts L.length + 2) s (n : Int) k) (n : Int))) ∧
      (∀ k, mOk (2 * bts L.length + 1) (cuS (bts L.length + 2) (2 * bts L.length + 1) s (n : Int) k).2 t.root (cuS (bts L.length + 2) (2 * bts L.length + 1) s (n : Int) k).1) ∧
      ∀ k, ∃ t', (meldS (2 * bts L.length + 1) (cuS (bts L.length + 2) (2 * bts L.length + 1) s (n : Int) k).2 t.root (cuS (bts L.length + 2) (2 * bts L.length + 1) s (n : Int) k).1).1 = t'.root ∧ Inv1 (meldS (2 * bts L.length + 1) (cuS (bts L.length + 2) (2 * bts L.length + 1) s (n : Int) k).2 t.root (cuS (bts L.length + 2) (2 * bts L.length + 1) s (n : Int) k).1).2 t' u (l1 ++ l2) M x.1)) := by
  obtain ⟨i, k0, ser⟩ := x
  simp only
  have hxm : (i, k0, ser) ∈ L := by rw [hL]; simp
  have him : i ∈ t.items := h.a.mem hxm
  obtain ⟨c, n, l, r, ht⟩ := find_path t i him
  have hlen := h.a.len
  have gz := h.a.gd.gz
  have hpp := pth_of c (nd n i l r) (by rw [← ht]; exact gz.hp) (by rw [← ht]; exact gz.up)
  have hpl : Hp (LS s) (hasS s) (nd n i l r) := hpp.2.1
  have enode : cellS s (i : Int) 9 = (n : Int) := no_tree h.ok hpl
  have erk : rootS s t.root = t.root := root_any h.ok gz.hp gz.up
  have clr : Cl t.root := by
    rcases root_or gz.hp with e | ⟨a, e, la⟩
    · rw [e]; exact Cl.none
    · rw [e]; exact ls_cl h.ok la
  have hn0 : (nd n i l r).Lft := plug_lft c _ (by rw [← ht]; exact gz.lft)
  have hsn : (nd n i l r).size ≤ L.length := by have := (plug_size c (nd n i l r)).1; rw [← ht] at this; omega
  have rl : l.rank ≤ bts L.length := by
    have a1 := rank_bts hn0.2.1
    have a2 : l.size ≤ L.length := by simp only [size] at hsn; omega
    have := bts_mono a2
    omega
  have rr : r.rank ≤ bts L.length := by
    have a1 := rank_bts hn0.2.2
    have a2 : r.size ≤ L.length := by simp only [size] at hsn; omega
    have := bts_mono a2
    omega
  refine ⟨n, enode, clr, ?_⟩
  cases c with
  | nil =>
    have ht' : t = nd n i l r := ht
    subst ht'
    refine Or.inl ⟨erk, l.rank + r.rank + 1, by omega, fun k => ?_, fun k => ?_⟩
    · obtain ⟨e1, e2, e3, _⟩ := pop_inv (i := i) h (by omega) hL rfl k
      rw [e1, e2]; exact e3
    · obtain ⟨e1, e2, _, e4⟩ := pop_inv (i := i) h (by omega) hL rfl k
      rw [e1, e2]; exact e4
  | cons f c =>
    have gz' : Gz s (plug (f :: c) (nd n i l r)) := by rw [← ht]; exact gz
    have hsz : (plug (f :: c) (nd n i l r)).size ≤ L.length := by rw [← ht]; omega
    obtain ⟨d1, _⟩ := det_gz 0 (bts L.length + 2) L.length h.ok gz' hsz (by omega) (Nat.le_refl _)
    have hcel := plug_cells (f :: c) (nd n i l r)
    rw [← ht] at hcel
    have hnd := hcel.nodup_iff.1 h.a.gd.nd
    rw [List.nodup_append] at hnd
    have hroot : t.root = (fix (f :: c) lf).root := by rw [fix_root c f (nd n i l r) lf, ← ht]
    have hfx : ∀ a, a ∈ (fix (f :: c) lf).cells ↔ a ∈ pcells (f :: c) := fun a => by rw [(fix_cells (f :: c) lf).mem_iff]; simp [cells]
    have hne : t.root ≠ (n : Int) := fun e => hnd.2.2 n ((hfx n).1 (root_mem (hroot ▸ e))) n (by simp [cells]) rfl
    have hno : t.root ≠ -1 := by
      rw [ht]
      cases hp : plug (f :: c) (nd n i l r) with
      | lf => rw [hp] at ht; subst ht; simp [items] at him
      | nd a b x y => simp only [root]; omega
    have ebel : belB s t.root (n : Int) = true := by
      unfold belB
      rw [erk, d1]
      simp [hno]
    have od0 : (plug (f :: c) (nd n i l r)).Od (befF (hasS s)) := by have := h.a.gd.od; rw [ht] at this; exact this
    have main : ∀ k, mOk (2 * bts L.length + 1) (rmS (dS (bts L.length + 2) s (n : Int) k) (n : Int)) (lcS (dS (bts L.length + 2) s (n : Int) k) (n : Int)) (rcS (dS (bts L.length + 2) s (n : Int) k) (n : Int)) ∧
        mOk (2 * bts L.length + 1) (cuS (bts L.length + 2) (2 * bts L.length + 1) s (n : Int) k).2 t.root (cuS (bts L.length + 2) (2 * bts L.length + 1) s (n : Int) k).1 ∧
        ∃ t', (meldS (2 * bts L.length + 1) (cuS (bts L.length + 2) (2 * bts L.length + 1) s (n : Int) k).2 t.root (cuS (bts L.length + 2) (2 * bts L.length + 1) s (n : Int) k).1).1 = t'.root ∧ Inv1 (meldS (2 * bts L.length + 1) (cuS (bts L.length + 2) (2 * bts L.length + 1) s (n : Int) k).2 t.root (cuS (bts L.length + 2) (2 * bts L.length + 1) s (n : Int) k).1).2 t' u (l1 ++ l2) M i := fun k => by
      obtain ⟨_, _, smd, z1, z2, fr⟩ := det_gz k (bts L.length + 2) L.length h.ok gz' hsz (by omega) (Nat.le_refl _)
      unfold cuS
      generalize dS (bts L.length + 2) s (n : Int) k = sd at *
      have okd := smd.ok
      have f78 : ∀ a, hasS sd a 7 = hasS s a 7 ∧ hasS sd a 8 = hasS s a 8 := fun a => ⟨fr a 7 (Or.inr (by decide)), fr a 8 (Or.inr (by decide))⟩
      have g1 : Gd sd (nd n i l r) := z1.gd (Od.mono _ (fun a _ b _ => befF_like (f78 a).1 (f78 a).2 (f78 b).1 (f78 b).2) (plug_od _ _ od0))
      have g2 : Gd sd (fix (f :: c) lf) := z2.gd (by
        have o1 : (fix (f :: c) lf).Od (befF (hasS s)) := fix_od (f :: c) (nd n i l r) lf od0 trivial (fun j hj => by simp [items] at hj)
        exact Od.mono _ (fun a _ b _ => befF_like (f78 a).1 (f78 a).2 (f78 b).1 (f78 b).2) o1)
      have hu' : Hh sd u M := h.b.keep fun a ha => ⟨by rw [smd.ls], fun j => fr a j (Or.inl (fun y => h.dj a (by rw [ht]; exact y) ha))⟩
      have e1 : lcS sd (n : Int) = l.root := lc_tree okd g1.hp
      have e2 : rcS sd (n : Int) = r.root := rc_tree okd g1.hp g1.nd
      rw [e1, e2]
      obtain ⟨v1, v2, v3, v4, v5⟩ := rm_view okd g1
      obtain ⟨gl, gr⟩ := gd_rm okd g1
      have hnd1 := g1.nd
      simp only [Tr.cells, List.nodup_cons, List.mem_cons, List.mem_append, List.nodup_append, not_or] at hnd1
      obtain ⟨⟨n1, n2, n3⟩, ⟨n4, n5⟩, n6, n7, n8⟩ := hnd1
      -- what is away from the node is left alone
      have away : ∀ a, a ∉ (nd n i l r).cells → LS (rmS sd (n : Int)) a = LS sd a ∧ ∀ j, hasS (rmS sd (n : Int)) a j = hasS sd a j := fun a ha => by
        simp only [Tr.cells, List.mem_cons, List.mem_append, not_or] at ha
        refine ⟨by rw [v4, if_neg ha.1], fun j => ?_⟩
        rw [v5, if_neg (fun y => ha.2.1 y.1), if_neg]
        rintro ⟨_, y | y⟩
        · exact ha.2.2.1 (root_mem y)
        · exact ha.2.2.2 (root_mem y)
      have hfn : ∀ a ∈ (fix (f :: c) lf).cells, a ∉ (nd n i l r).cells := fun a ha y => hnd.2.2 a ((hfx a).1 ha) a y rfl
      have hun : ∀ a ∈ u.cells, a ∉ (nd n i l r).cells := fun a ha y => h.dj a (hcel.mem_iff.2 (List.mem_append.2 (Or.inr y))) ha
      have huf : ∀ a ∈ u.cells, a ∉ (fix (f :: c) lf).cells := fun a ha y => h.dj a (hcel.mem_iff.2 (List.mem_append.2 (Or.inl ((hfx a).1 y)))) ha
      have g3 : Gd (rmS sd (n : Int)) (fix (f :: c) lf) := g2.keep fun a ha => away a (hfn a ha)
      have hu3 : Hh (rmS sd (n : Int)) u M := hu'.keep fun a ha => away a (hun a ha)
      have zl : l.size + r.size + 1 ≤ L.length := by simpa [size] using hsn
      have hlr : (l.cells ++ r.cells).Nodup := List.nodup_append.2 ⟨n6, n7, n8⟩
      obtain ⟨m, g4⟩ := gd_meld (k := 2 * bts L.length + 1) v1 gl gr hlr (by omega) (by omega)
      have sm4 := Sm.meld (2 * bts L.length + 1) v1 l.root r.root
      have i4 := ml_items (lt := befF (hasS (rmS sd (n : Int)))) (2 * bts L.length + 1) l r (by omega)
      have c4 := ml_cells (lt := befF (hasS (rmS sd (n : Int)))) (2 * bts L.length + 1) l r (by omega)
      have z4 := ml_size (lt := befF (hasS (rmS sd (n : Int)))) (k := 2 * bts L.length + 1) (a := l) (b := r) (by omega)
      have mrt := m.root
      have mrest := m.rest
      refine ⟨m.ok, ?_⟩
      rw [mrt]
      clear m mrt
      generalize (meldS (2 * bts L.length + 1) (rmS sd (n : Int)) l.root r.root).2 = s4 at *
      generalize ml (befF (hasS (rmS sd (n : Int)))) (2 * bts L.length + 1) l r = lr at *
      have nsub : ∀ a, a ∉ (nd n i l r).cells → ∀ j, hasS s4 a j = hasS (rmS sd (n : Int)) a j := fun a ha j => by
        simp only [Tr.cells, List.mem_cons, List.mem_append, not_or] at ha
        exact mrest a j (Or.inl ⟨fun y => ha.2.2.1 (nodes_sub y), fun y => ha.2.2.2 (nodes_sub y)⟩)
      have g5 : Gd s4 (fix (f :: c) lf) := g3.keep fun a ha => ⟨by rw [sm4.ls], nsub a (hfn a ha)⟩
      have hu5 : Hh s4 u M := hu3.keep fun a ha => ⟨by rw [sm4.ls], nsub a (hun a ha)⟩
      have clr' : ∀ a, a ∈ lr.cells → a ∈ (nd n i l r).cells := fun a ha => by
        have := c4.mem_iff.1 ha
        rw [List.mem_append] at this
        simp only [Tr.cells, List.mem_cons, List.mem_append]
        exact Or.inr (Or.inr this)
      have zf : (fix (f :: c) lf).size + (nd n i l r).size ≤ L.length := by
        have y1 : (fix (f :: c) lf).size = (pitems (f :: c)).length := by rw [← size_items, (fix_items (f :: c) lf).length_eq]; simp [items]
        have y2 : t.size = (pitems (f :: c)).length + (nd n i l r).size := by
          rw [ht, ← size_items, ← size_items, (plug_items (f :: c) (nd n i l r)).length_eq, List.length_append]
        omega
      have rf : (fix (f :: c) lf).rank ≤ bts L.length := by
        have a1 := rank_bts g5.lft
        have := bts_mono (show (fix (f :: c) lf).size ≤ L.length by omega)
        omega
      have rlr : lr.rank ≤ bts L.length := by
        have a1 := rank_bts g4.lft
        have := bts_mono (show lr.size ≤ L.length by omega)
        omega
      rw [hroot]
      simp only [size] at zf
      obtain ⟨m1, m2, m3, m4, m5, m6, m7, m8⟩ := meld_two (s := s4) (a := fix (f :: c) lf) (b := lr) (k := 2 * bts L.length + 1) sm4.ok g5 g4 hu5
        (fun a ha y => hfn a ha (clr' a y)) (fun a ha y => huf a y ha) (fun a ha y => hun a y (clr' a ha)) (by omega) (by omega)
      have hpm := h.a.pm
      rw [hL, List.map_append, List.map_cons] at hpm
      have hpl2 : (pitems (f :: c) ++ (nd n i l r).items).Perm (i :: (pitems (f :: c) ++ (l.items ++ r.items))) := by
        simp only [items]; exact List.perm_middle
      have hpm' : ((l1 ++ l2).map (fun x => x.1)).Perm (pitems (f :: c) ++ (l.items ++ r.items)) := by
        rw [List.map_append]
        have e := (List.perm_middle (a := i) (l₁ := l1.map (fun x => x.1)) (l₂ := l2.map (fun x => x.1))).symm.trans hpm
        rw [ht] at e
        exact List.Perm.cons_inv ((e.trans (plug_items (f :: c) (nd n i l r))).trans hpl2)
      have hiI : i ∉ (l1 ++ l2).map (fun x => x.1) := fun y => by
        have e := h.a.pm.nodup_iff.2 (items_nodup h.a.gd.nd)
        rw [hL] at e
        simp only [List.map_append, List.map_cons] at e
        have e2 := (List.perm_middle (a := i) (l₁ := l1.map (fun x => x.1)) (l₂ := l2.map (fun x => x.1))).nodup_iff.1 e
        rw [List.nodup_cons, ← List.map_append] at e2
        exact e2.1 y
      have hic : i ∈ (nd n i l r).cells := by simp [cells]
      have hiu : i ∉ u.cells := fun y => hun i y hic
      have hinl : i ∉ l.nodes ∧ i ∉ r.nodes := ⟨fun y => n4 (nodes_sub y), fun y => n5 (nodes_sub y)⟩
      refine ⟨m1, _, m2, m7.ok, ⟨m3, ?_, ?_⟩, m4, ?_, ?_, ?_, ⟨?_, ?_⟩, ?_⟩
      · refine hpm'.trans (List.Perm.trans ?_ m5.symm)
        refine List.Perm.append ?_ i4.symm
        have := (fix_items (f :: c) lf).symm
        simpa [items] using this
      · intro y hy
        have hyi : y.1 ≠ i := fun e => hiI (e ▸ List.mem_map.2 ⟨y, hy, rfl⟩)
        rw [m8 y.1 7 (Or.inr (by decide)), m8 y.1 8 (Or.inr (by decide)), mrest y.1 7 (Or.inr (by decide)), mrest y.1 8 (Or.inr (by decide)), v5, v5, if_neg (by omega), if_neg (by omega), if_neg (by omega), if_neg (by omega), (f78 y.1).1, (f78 y.1).2]
        exact h.a.en y (by rw [hL]; rw [List.mem_append] at hy; simp; rcases hy with hy | hy; exact Or.inl hy; exact Or.inr (Or.inr hy))
      · intro a ha y
        have := m6.mem_iff.1 ha
        rw [List.mem_append] at this
        rcases this with q | q
        · exact huf a y q
        · exact hun a y (clr' a q)
      · rw [cnt_sm sm4.ok m7, cnt_sm v1 sm4]
        have c1 := v1.count
        have c2 := h.ok.count
        rw [v2, v3, smd.back, smd.len] at c1
        have c3 := h.num
        rw [hL] at c3
        simp at c1 c3 ⊢
        omega
      · rw [m7.ls, sm4.ls, v4, if_neg (fun y => n1 y.symm)]; exact g1.hp.1.2
      · intro y
        have := m6.mem_iff.1 y
        rw [List.mem_append] at this
        rcases this with q | q
        · exact hfn i q hic
        · have := c4.mem_iff.1 q
          rw [List.mem_append] at this
          exact this.elim n4 n5
      · exact hiu
      · rw [m8 i 9 (Or.inr (by decide)), mrest i 9 (Or.inr (by decide)), v5, if_pos ⟨rfl, rfl⟩]
    refine Or.inr ⟨Nat.le_trans (plug_two c f n i l r) hsz, by rw [erk]; exact hne, ebel, fun k => ?_, fun k => (main k).1, fun k => (main k).2.1, fun k => (main k).2.2⟩
    exact (det_gz k (bts L.length + 2) L.length h.ok gz' hsz (by omega) (Nat.le_refl _)).2.1
end
end Go.Proofs.YtnkpopeahmjodaaGreat
