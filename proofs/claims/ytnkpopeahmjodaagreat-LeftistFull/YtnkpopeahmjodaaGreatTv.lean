/- Leftist trees in an arena: what meld does. -/
import Derived.Test.YtnkpopeahmjodaaGreatTu
namespace Go.Proofs.YtnkpopeahmjodaaGreat
open Go.ChangeShapes Go.WideShapes Go.ChangeAt Go.RowKit
open Tr

theorem rank_le : ∀ t : Tr, t.rank ≤ t.size
  | lf => Nat.le_refl _
  | nd n i l r => by have := rank_le r; simp only [rank, size]; omega
theorem ml_size {lt : Nat → Nat → Bool} {k : Nat} {a b : Tr} (h : a.rank + b.rank < k) : (ml lt k a b).size = a.size + b.size := by
  rw [← size_items, ← size_items, ← size_items, (ml_items k a b h).length_eq, List.length_append]
theorem nodes_sub {t : Tr} {c : Nat} (h : c ∈ t.nodes) : c ∈ t.cells := mem_cells.2 (Or.inl h)

theorem root_nodes {t : Tr} {c : Nat} (h : t.root = (c : Int)) : c ∈ t.nodes := by
  cases t with
  | lf => simp [root] at h
  | nd n i l r => simp only [root] at h; have : n = c := by omega
                  subst this; simp [nodes]
/-- what meld does -/
structure Mld (k : Nat) (s : St) (a b : Tr) : Prop where
  ok : mOk k s a.root b.root
  root : (meldS k s a.root b.root).1 = (ml (befF (hasS s)) k a b).root
  hp : Hp (LS s) (hasS (meldS k s a.root b.root).2) (ml (befF (hasS s)) k a b)
  rest : ∀ c j, ((c ∉ a.nodes ∧ c ∉ b.nodes) ∨ (j ≠ 0 ∧ j ≠ 2 ∧ j ≠ 3 ∧ j ≠ 4)) → hasS (meldS k s a.root b.root).2 c j = hasS s c j
  up : ∀ c : Nat, (ml (befF (hasS s)) k a b).root = (c : Int) → hasS (meldS k s a.root b.root).2 c 0 = hasS s c 0

theorem meld_tree : ∀ (k : Nat) {s : St} (_ : Ok s) (a b : Tr), Hp (LS s) (hasS s) a → Hp (LS s) (hasS s) b → (a.cells ++ b.cells).Nodup → a.rank + b.rank < k → a.size + b.size < 1000000 → Mld k s a b
  | 0, s, ok, a, b, ha, hb, hn, hk, hz => by omega
  | k + 1, s, ok, a, lf, ha, hb, hn, hk, hz => by
    have e : meldS (k + 1) s a.root (lf : Tr).root = (a.root, s) := by show meldS (k + 1) s a.root (-1) = _; unfold meldS; rw [if_pos (Or.inl rfl)]
    have e2 : ml (befF (hasS s)) (k + 1) a lf = a := by cases a <;> rfl
    refine ⟨Or.inl (Or.inl rfl), ?_, ?_, ?_, ?_⟩ <;> rw [e]
    · rw [e2]
    · rw [e2]; exact ha
    · exact fun _ _ _ => rfl
    · exact fun _ _ => rfl
  | k + 1, s, ok, lf, nd m j l' r', ha, hb, hn, hk, hz => by
    have e : meldS (k + 1) s (lf : Tr).root (nd m j l' r').root = ((nd m j l' r').root, s) := by show meldS (k + 1) s (-1) (m : Int) = ((m : Int), s); unfold meldS; rw [if_neg (by omega), if_pos rfl]
    refine ⟨Or.inr (Or.inl rfl), ?_, ?_, ?_, ?_⟩ <;> rw [e]
    · rfl
    · exact hb
    · exact fun _ _ _ => rfl
    · exact fun _ _ => rfl
  | k + 1, s, ok, nd n i l r, nd m j l' r', ha, hb, hn, hk, hz => by
    have hnm : n ≠ m := fun e => by
      rw [List.nodup_append] at hn
      exact hn.2.2 n (by simp [cells]) m (by simp [cells]) e
    have c1 : ¬ ((m : Int) = -1 ∨ (n : Int) = (m : Int)) := by omega
    have c2 : ¬ ((n : Int) = -1) := by omega
    have q0 := nb_tree ok hb ha
    have na := (List.nodup_append.1 hn).1
    have nb := (List.nodup_append.1 hn).2.1
    simp only [rank] at hk
    simp only [size] at hz
    have okk := (Sm.tk ok 10).ok
    by_cases q : befF (hasS s) j i = true
    · have t1 : topS s (n : Int) (m : Int) = (m : Int) := by unfold topS; rw [q0, if_pos q]
      have t2 : othS s (n : Int) (m : Int) = (n : Int) := by unfold othS; rw [q0, if_pos q]
      have e1 : rcS s (m : Int) = r'.root := rc_tree ok hb nb
      have e2 : lcS s (m : Int) = l'.root := lc_tree ok hb
      have hX := hb
      obtain ⟨⟨a1, a2⟩, ⟨b1, b2, b3, b4, b5, b6⟩, ⟨u1, u2⟩, hl, hr⟩ := hb
      have hN : (m :: j :: (l'.cells ++ (r'.cells ++ (nd n i l r).cells))).Nodup := by
        refine (List.Perm.nodup_iff ?_).1 hn
        rw [List.perm_iff_count]
        intro c
        simp only [cells, List.count_cons, List.count_append]
        omega
      have hN' := hN
      simp only [List.nodup_cons, List.mem_cons, not_or] at hN
      rw [List.mem_append, List.mem_append, List.mem_append, List.mem_append, List.nodup_append, List.nodup_append] at hN
      obtain ⟨⟨n1, n2⟩, n3, n4, ⟨n5, n6, n7⟩, n8⟩ := hN
      have hrk : r'.rank + (nd n i l r).rank < k := by simp only [rank]; omega
      have IH := meld_tree k okk r' (nd n i l r) hr ha (List.nodup_append.2 ⟨n5, n6, n7⟩) hrk (by simp only [size]; omega)
      have hfx : hasS (tk s 10) = hasS s := rfl
      have hsm := Sm.meld k okk r'.root (nd n i l r).root
      have e : meldS (k + 1) s (n : Int) (m : Int) = ((m : Int), leanS (meldS k (tk s 10) r'.root (nd n i l r).root).2 (m : Int) l'.root (meldS k (tk s 10) r'.root (nd n i l r).root).1) := by
        rw [meldS, if_neg c1, if_neg c2, t1, t2, e1, e2]; rfl
      have ek : mOk (k + 1) s (n : Int) (m : Int) = ((((m : Int) = -1 ∨ (n : Int) = (m : Int)) ∨ (n : Int) = -1 ∨ (mOk k (tk s 10) r'.root (nd n i l r).root ∧ rkS (meldS k (tk s 10) r'.root (nd n i l r).root).2 l'.root < 1000000 ∧ rkS (meldS k (tk s 10) r'.root (nd n i l r).root).2 (meldS k (tk s 10) r'.root (nd n i l r).root).1 < 1000000))) := by
        rw [mOk, t1, t2, e1, e2]; rfl
      have em : ml (befF (hasS s)) (k + 1) (nd n i l r) (nd m j l' r') = Tr.mk m j l' (ml (befF (hasS s)) k r' (nd n i l r)) := by
        rw [ml, if_pos q]
      obtain ⟨i1, i2, i3, i4, i5⟩ := IH
      rw [hfx] at i2 i3 i4 i5
      have hms := ml_size (lt := befF (hasS s)) hrk
      have hmm := ml_nodes (lt := befF (hasS s)) k r' (nd n i l r) hrk
      have hmc := ml_cells (lt := befF (hasS s)) k r' (nd n i l r) hrk
      rw [i2] at e ek
      have i3' : Hp (LS s) (hasS (meldS k (tk s 10) r'.root (nd n i l r).root).2) (ml (befF (hasS s)) k r' (nd n i l r)) := i3
      generalize ml (befF (hasS s)) k r' (nd n i l r) = M at *
      obtain ⟨k1, k2, k3, k4, k5⟩ := hsm
      have k5' : LS (meldS k (tk s 10) r'.root (nd n i l r).root).2 = LS s := k5
      generalize (meldS k (tk s 10) r'.root (nd n i l r).root).2 = s3 at *
      have fx : ∀ c, c ∉ r'.cells → c ∉ (nd n i l r).cells → ∀ z, hasS s3 c z = hasS s c z := fun c y1 y2 z => i4 c z (Or.inl ⟨fun y => y1 (nodes_sub y), fun y => y2 (nodes_sub y)⟩)
      have hL : Hp (LS s3) (hasS s3) l' := by
        rw [k5']
        exact hl.like n4 (fun _ _ => rfl) fun c hc z _ => fx c (fun y => n8 c hc c (List.mem_append.2 (Or.inl y)) rfl) (fun y => n8 c hc c (List.mem_append.2 (Or.inr y)) rfl) z
      have hM : Hp (LS s3) (hasS s3) M := by rw [k5']; exact i3'
      have hNM : (m :: j :: (l'.cells ++ M.cells)).Nodup := (List.Perm.nodup_iff (.cons _ (.cons _ (hmc.symm.append_left _)))).1 hN'
      have xX : ∀ z, hasS s3 m z = hasS s m z := fx m (fun y => n2 (Or.inr (Or.inl y))) (fun y => n2 (Or.inr (Or.inr y)))
      obtain ⟨z1, z2, z3⟩ := lean_tree k1 hL hM hNM (by rw [k5']; exact a1) (by rw [k5']; exact a2) (by rw [xX]; exact b1) (by rw [xX]; exact b5) (by rw [i4 j 9 (Or.inr ⟨by decide, by decide, by decide, by decide⟩)]; exact b6)
      rw [k5'] at z1
      have r1 := rank_le l'
      have r2 := rank_le M
      have w1 : rkS s3 l'.root < 1000000 := by rw [rk_tree hL]; omega
      have w2 : rkS s3 M.root < 1000000 := by rw [rk_tree hM]; simp only [size] at hms; omega
      refine ⟨?_, ?_, ?_, ?_, ?_⟩
      · show mOk (k + 1) s (n : Int) (m : Int)
        rw [ek]
        exact Or.inr (Or.inr ⟨i1, w1, w2⟩)
      · rw [em, mk_root]; show (meldS (k + 1) s (n : Int) (m : Int)).1 = _; rw [e]
      · rw [em]; show Hp (LS s) (hasS (meldS (k + 1) s (n : Int) (m : Int)).2) _; rw [e]; exact z1
      · intro c z hz'
        show hasS (meldS (k + 1) s (n : Int) (m : Int)).2 c z = _
        rw [e]
        simp only [nodes, List.mem_cons, List.mem_append, not_or] at hz'
        rcases hz' with ⟨⟨p1, p2, p3⟩, p4, p5, p6⟩ | ⟨y0, y2, y3, y4⟩
        · have hmn : c ∉ M.nodes := fun y => by
            have := hmm.mem_iff.1 y
            simp only [nodes, List.mem_append, List.mem_cons] at this
            rcases this with y | y | y | y
            · exact p6 y
            · exact p1 y
            · exact p2 y
            · exact p3 y
          rw [z2 c z (Or.inl p4) (Or.inr ⟨fun y => p5 (root_nodes y), fun y => hmn (root_nodes y)⟩)]
          exact i4 c z (Or.inl ⟨p6, by simp only [nodes, List.mem_append, List.mem_cons, not_or]; exact ⟨p1, p2, p3⟩⟩)
        · rw [z2 c z (Or.inr ⟨y2, y3, y4⟩) (Or.inl y0)]
          exact i4 c z (Or.inr ⟨y0, y2, y3, y4⟩)
      · intro c hc
        rw [em, mk_root] at hc
        have : m = c := by omega
        subst this
        show hasS (meldS (k + 1) s (n : Int) (m : Int)).2 m 0 = _
        rw [e, z2 m 0 (Or.inr ⟨by decide, by decide, by decide⟩) (Or.inr ⟨fun y => n2 (Or.inl (root_mem y)), fun y => n2 (Or.inr (by have := hmc.mem_iff.1 (root_mem y); rwa [List.mem_append] at this))⟩), xX]
    · have t1 : topS s (n : Int) (m : Int) = (n : Int) := by unfold topS; rw [q0, if_neg q]
      have t2 : othS s (n : Int) (m : Int) = (m : Int) := by unfold othS; rw [q0, if_neg q]
      have e1 : rcS s (n : Int) = r.root := rc_tree ok ha na
      have e2 : lcS s (n : Int) = l.root := lc_tree ok ha
      have hX := ha
      obtain ⟨⟨a1, a2⟩, ⟨b1, b2, b3, b4, b5, b6⟩, ⟨u1, u2⟩, hl, hr⟩ := ha
      have hN : (n :: i :: (l.cells ++ (r.cells ++ (nd m j l' r').cells))).Nodup := by
        refine (List.Perm.nodup_iff ?_).1 hn
        rw [List.perm_iff_count]
        intro c
        simp only [cells, List.count_cons, List.count_append]
        omega
      have hN' := hN
      simp only [List.nodup_cons, List.mem_cons, not_or] at hN
      rw [List.mem_append, List.mem_append, List.mem_append, List.mem_append, List.nodup_append, List.nodup_append] at hN
      obtain ⟨⟨n1, n2⟩, n3, n4, ⟨n5, n6, n7⟩, n8⟩ := hN
      have hrk : r.rank + (nd m j l' r').rank < k := by simp only [rank]; omega
      have IH := meld_tree k okk r (nd m j l' r') hr hb (List.nodup_append.2 ⟨n5, n6, n7⟩) hrk (by simp only [size]; omega)
      have hfx : hasS (tk s 10) = hasS s := rfl
      have hsm := Sm.meld k okk r.root (nd m j l' r').root
      have e : meldS (k + 1) s (n : Int) (m : Int) = ((n : Int), leanS (meldS k (tk s 10) r.root (nd m j l' r').root).2 (n : Int) l.root (meldS k (tk s 10) r.root (nd m j l' r').root).1) := by
        rw [meldS, if_neg c1, if_neg c2, t1, t2, e1, e2]; rfl
      have ek : mOk (k + 1) s (n : Int) (m : Int) = ((((m : Int) = -1 ∨ (n : Int) = (m : Int)) ∨ (n : Int) = -1 ∨ (mOk k (tk s 10) r.root (nd m j l' r').root ∧ rkS (meldS k (tk s 10) r.root (nd m j l' r').root).2 l.root < 1000000 ∧ rkS (meldS k (tk s 10) r.root (nd m j l' r').root).2 (meldS k (tk s 10) r.root (nd m j l' r').root).1 < 1000000))) := by
        rw [mOk, t1, t2, e1, e2]; rfl
      have em : ml (befF (hasS s)) (k + 1) (nd n i l r) (nd m j l' r') = Tr.mk n i l (ml (befF (hasS s)) k r (nd m j l' r')) := by
        rw [ml, if_neg q]
      obtain ⟨i1, i2, i3, i4, i5⟩ := IH
      rw [hfx] at i2 i3 i4 i5
      have hms := ml_size (lt := befF (hasS s)) hrk
      have hmm := ml_nodes (lt := befF (hasS s)) k r (nd m j l' r') hrk
      have hmc := ml_cells (lt := befF (hasS s)) k r (nd m j l' r') hrk
      rw [i2] at e ek
      have i3' : Hp (LS s) (hasS (meldS k (tk s 10) r.root (nd m j l' r').root).2) (ml (befF (hasS s)) k r (nd m j l' r')) := i3
      generalize ml (befF (hasS s)) k r (nd m j l' r') = M at *
      obtain ⟨k1, k2, k3, k4, k5⟩ := hsm
      have k5' : LS (meldS k (tk s 10) r.root (nd m j l' r').root).2 = LS s := k5
      generalize (meldS k (tk s 10) r.root (nd m j l' r').root).2 = s3 at *
      have fx : ∀ c, c ∉ r.cells → c ∉ (nd m j l' r').cells → ∀ z, hasS s3 c z = hasS s c z := fun c y1 y2 z => i4 c z (Or.inl ⟨fun y => y1 (nodes_sub y), fun y => y2 (nodes_sub y)⟩)
      have hL : Hp (LS s3) (hasS s3) l := by
        rw [k5']
        exact hl.like n4 (fun _ _ => rfl) fun c hc z _ => fx c (fun y => n8 c hc c (List.mem_append.2 (Or.inl y)) rfl) (fun y => n8 c hc c (List.mem_append.2 (Or.inr y)) rfl) z
      have hM : Hp (LS s3) (hasS s3) M := by rw [k5']; exact i3'
      have hNM : (n :: i :: (l.cells ++ M.cells)).Nodup := (List.Perm.nodup_iff (.cons _ (.cons _ (hmc.symm.append_left _)))).1 hN'
      have xX : ∀ z, hasS s3 n z = hasS s n z := fx n (fun y => n2 (Or.inr (Or.inl y))) (fun y => n2 (Or.inr (Or.inr y)))
      obtain ⟨z1, z2, z3⟩ := lean_tree k1 hL hM hNM (by rw [k5']; exact a1) (by rw [k5']; exact a2) (by rw [xX]; exact b1) (by rw [xX]; exact b5) (by rw [i4 i 9 (Or.inr ⟨by decide, by decide, by decide, by decide⟩)]; exact b6)
      rw [k5'] at z1
      have r1 := rank_le l
      have r2 := rank_le M
      have w1 : rkS s3 l.root < 1000000 := by rw [rk_tree hL]; omega
      have w2 : rkS s3 M.root < 1000000 := by rw [rk_tree hM]; simp only [size] at hms; omega
      refine ⟨?_, ?_, ?_, ?_, ?_⟩
      · show mOk (k + 1) s (n : Int) (m : Int)
        rw [ek]
        exact Or.inr (Or.inr ⟨i1, w1, w2⟩)
      · rw [em, mk_root]; show (meldS (k + 1) s (n : Int) (m : Int)).1 = _; rw [e]
      · rw [em]; show Hp (LS s) (hasS (meldS (k + 1) s (n : Int) (m : Int)).2) _; rw [e]; exact z1
      · intro c z hz'
        show hasS (meldS (k + 1) s (n : Int) (m : Int)).2 c z = _
        rw [e]
        simp only [nodes, List.mem_cons, List.mem_append, not_or] at hz'
        rcases hz' with ⟨⟨p1, p2, p3⟩, p4, p5, p6⟩ | ⟨y0, y2, y3, y4⟩
        · have hmn : c ∉ M.nodes := fun y => by
            have := hmm.mem_iff.1 y
            simp only [nodes, List.mem_append, List.mem_cons] at this
            rcases this with y | y | y | y
            · exact p3 y
            · exact p4 y
            · exact p5 y
            · exact p6 y
          rw [z2 c z (Or.inl p1) (Or.inr ⟨fun y => p2 (root_nodes y), fun y => hmn (root_nodes y)⟩)]
          exact i4 c z (Or.inl ⟨p3, by simp only [nodes, List.mem_append, List.mem_cons, not_or]; exact ⟨p4, p5, p6⟩⟩)
        · rw [z2 c z (Or.inr ⟨y2, y3, y4⟩) (Or.inl y0)]
          exact i4 c z (Or.inr ⟨y0, y2, y3, y4⟩)
      · intro c hc
        rw [em, mk_root] at hc
        have : n = c := by omega
        subst this
        show hasS (meldS (k + 1) s (n : Int) (m : Int)).2 n 0 = _
        rw [e, z2 n 0 (Or.inr ⟨by decide, by decide, by decide⟩) (Or.inr ⟨fun y => n2 (Or.inl (root_mem y)), fun y => n2 (Or.inr (by have := hmc.mem_iff.1 (root_mem y); rwa [List.mem_append] at this))⟩), xX]
end Go.Proofs.YtnkpopeahmjodaaGreat
