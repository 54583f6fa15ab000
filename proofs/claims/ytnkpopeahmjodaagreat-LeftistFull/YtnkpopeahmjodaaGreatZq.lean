/- Paths in memory: what detach does. -/
import Derived.Test.YtnkpopeahmjodaaGreatZp
import Derived.Test.YtnkpopeahmjodaaGreatTz
namespace Go.Proofs.YtnkpopeahmjodaaGreat
open Go.ChangeShapes Go.WideShapes Go.ChangeAt Go.RowKit
open Tr

/-- the nearest node above -/
def topn : List Stp → Int
  | [] => -1
  | f :: _ => (f.n : Int)
/-- the field that leads down along the way, and the other one -/
def Stp.dn (f : Stp) : Nat := if f.left = true then 2 else 3
def Stp.ot (f : Stp) : Nat := if f.left = true then 3 else 2
def Stp.rk (f : Stp) (r : Nat) : Nat := if f.left = true then f.sib.rank + 1 else r + 1
theorem on_rk (f : Stp) (t : Tr) : (f.on t).rank = f.rk t.rank := by unfold Stp.on Stp.rk; split <;> rfl
def lnk (F : Nat → Nat → Int) : List Stp → Int → Prop
  | [], _ => True
  | f :: _, x => F f.n f.dn = x
/-- one step in cells -/
structure StpIn (L : Nat → Bool) (F : Nat → Nat → Int) (f : Stp) (rk : Nat) (up : Int) : Prop where
  ln : L f.n = true
  li : L f.i = true
  dw : F f.n 1 = -1
  sb : F f.n f.ot = f.sib.root
  ra : F f.n 4 = (rk : Int)
  it : F f.n 6 = (f.i : Int)
  no : F f.i 9 = (f.n : Int)
  su : upIs F f.sib (f.n : Int)
  sh : Hp L F f.sib
  up : F f.n 0 = up
/-- a way up in cells; r: the Rank of what is below -/
def Pth (L : Nat → Bool) (F : Nat → Nat → Int) : List Stp → Nat → Prop
  | [], _ => True
  | f :: c, r => StpIn L F f (f.rk r) (topn c) ∧ lnk F c (f.n : Int) ∧ Pth L F c (f.rk r)

section
variable {L L' : Nat → Bool} {F F' : Nat → Nat → Int}
theorem pth_of : ∀ (c : List Stp) (t : Tr), Hp L F (plug c t) → upIs F (plug c t) (-1) → Pth L F c t.rank ∧ Hp L F t ∧ lnk F c t.root ∧ upIs F t (topn c)
  | [], t, h, u => ⟨trivial, h, trivial, u⟩
  | f :: c, t, h, u => by
    obtain ⟨p, hh, l, uu⟩ := pth_of c (f.on t) h u
    obtain ⟨b, n, i, sib⟩ := f
    rw [on_rk] at p
    cases b with
    | true =>
      obtain ⟨⟨a1, a2⟩, ⟨b1, b2, b3, b4, b5, b6⟩, ⟨u1, u2⟩, hl, hr⟩ := (show Hp L F (nd n i t sib) from hh)
      exact ⟨⟨⟨a1, a2, b1, b3, b4, b5, b6, u2, hr, uu⟩, l, p⟩, hl, b2, u1⟩
    | false =>
      obtain ⟨⟨a1, a2⟩, ⟨b1, b2, b3, b4, b5, b6⟩, ⟨u1, u2⟩, hl, hr⟩ := (show Hp L F (nd n i sib t) from hh)
      exact ⟨⟨⟨a1, a2, b1, b2, b4, b5, b6, u1, hl, uu⟩, l, p⟩, hr, b3, u2⟩
theorem pth_to : ∀ (c : List Stp) (t : Tr), Pth L F c t.rank → Hp L F t → lnk F c t.root → upIs F t (topn c) → Hp L F (plug c t) ∧ upIs F (plug c t) (-1)
  | [], t, _, h, _, u => ⟨h, u⟩
  | f :: c, t, p, h, l, u => by
    obtain ⟨⟨a1, a2, b1, b3, b4, b5, b6, u2, hr, uu⟩, l', p'⟩ := p
    have e := on_rk f t
    refine pth_to c (f.on t) (by rw [e]; exact p') ?_ ?_ ?_
    · obtain ⟨b, n, i, sib⟩ := f
      cases b with
      | true => exact ⟨⟨a1, a2⟩, ⟨b1, l, b3, b4, b5, b6⟩, ⟨u, u2⟩, h, hr⟩
      | false => exact ⟨⟨a1, a2⟩, ⟨b1, b3, l, b4, b5, b6⟩, ⟨u2, u⟩, hr, h⟩
    · have : (f.on t).root = (f.n : Int) := by unfold Stp.on; split <;> rfl
      rw [this]; exact l'
    · obtain ⟨b, n, i, sib⟩ := f
      cases b <;> exact uu
theorem StpIn.like {f : Stp} {r : Nat} {up : Int} (h : StpIn L F f r up) (hs : f.sib.cells.Nodup) (hL : ∀ a, a = f.n ∨ a = f.i ∨ a ∈ f.sib.cells → L' a = L a) (hF : ∀ a, a = f.n ∨ a = f.i ∨ a ∈ f.sib.cells → ∀ j, F' a j = F a j) : StpIn L' F' f r up := by
  obtain ⟨a1, a2, b1, b3, b4, b5, b6, u2, hr, uu⟩ := h
  refine ⟨?_, ?_, ?_, ?_, ?_, ?_, ?_, u2.like fun c hc => hF c (Or.inr (Or.inr hc)) 0, hr.like hs (fun c hc => hL c (Or.inr (Or.inr hc))) (fun c hc j _ => hF c (Or.inr (Or.inr hc)) j), ?_⟩
  · rw [hL _ (Or.inl rfl)]; exact a1
  · rw [hL _ (Or.inr (Or.inl rfl))]; exact a2
  · rw [hF _ (Or.inl rfl)]; exact b1
  · rw [hF _ (Or.inl rfl)]; exact b3
  · rw [hF _ (Or.inl rfl)]; exact b4
  · rw [hF _ (Or.inl rfl)]; exact b5
  · rw [hF _ (Or.inr (Or.inl rfl))]; exact b6
  · rw [hF _ (Or.inl rfl)]; exact uu
theorem Pth.like : ∀ {c : List Stp} {r : Nat}, Pth L F c r → (pcells c).Nodup → (∀ a ∈ pcells c, L' a = L a) → (∀ a ∈ pcells c, ∀ j, F' a j = F a j) → Pth L' F' c r
  | [], _, _, _, _, _ => trivial
  | f :: c, r, ⟨h, l, p⟩, hn, hL, hF => by
    have hm : ∀ a, a = f.n ∨ a = f.i ∨ a ∈ f.sib.cells → a ∈ pcells (f :: c) := fun a ha => by
      simp only [pcells, List.mem_cons, List.mem_append]
      rcases ha with rfl | rfl | ha
      · exact Or.inl rfl
      · exact Or.inr (Or.inl rfl)
      · exact Or.inr (Or.inr (Or.inl ha))
    have hm2 : ∀ a ∈ pcells c, a ∈ pcells (f :: c) := fun a ha => by
      simp only [pcells, List.mem_cons, List.mem_append]; exact Or.inr (Or.inr (Or.inr ha))
    have hn' := hn
    simp only [pcells, List.nodup_cons, List.nodup_append] at hn'
    refine ⟨h.like hn'.2.2.1 (fun a ha => hL a (hm a ha)) (fun a ha => hF a (hm a ha)), ?_, p.like hn'.2.2.2.1 (fun a ha => hL a (hm2 a ha)) (fun a ha => hF a (hm2 a ha))⟩
    cases c with
    | nil => trivial
    | cons g c =>
      show F' g.n g.dn = _
      rw [hF g.n (hm2 _ (by simp [pcells]))]
      exact l
end

theorem plug_size : ∀ (c : List Stp) (t : Tr), t.size ≤ (plug c t).size ∧ ∀ f ∈ c, f.sib.size < (plug c t).size
  | [], t => ⟨Nat.le_refl _, fun f h => by cases h⟩
  | f :: c, t => by
    obtain ⟨h1, h2⟩ := plug_size c (f.on t)
    have e : (f.on t).size = t.size + f.sib.size + 1 := by unfold Stp.on; split <;> simp only [Tr.size]; omega
    refine ⟨by show t.size ≤ (plug c (f.on t)).size; omega, fun g hg => ?_⟩
    rw [List.mem_cons] at hg
    rcases hg with rfl | hg
    · show g.sib.size < (plug c (g.on t)).size; omega
    · exact h2 g hg
theorem sib_lft : ∀ (c : List Stp) (t : Tr), (plug c t).Lft → ∀ f ∈ c, f.sib.Lft
  | [], t, _, f, h => by cases h
  | f :: c, t, h, g, hg => by
    rw [List.mem_cons] at hg
    rcases hg with rfl | hg
    · have := plug_lft c (g.on t) h
      unfold Stp.on at this
      split at this
      · exact this.2.2
      · exact this.2.1
    · exact sib_lft c (f.on t) h g hg

theorem rc_two {s : St} {n : Int} {x y : Tr} (h2 : chS s n 2 = x.root) (h3 : chS s n 3 = y.root) (hd : (x.cells ++ y.cells).Nodup) : rcS s n = y.root := by
  unfold rcS
  rw [h2, h3]
  split
  · rename_i q
    cases y with
    | lf => rfl
    | nd m j a b =>
      exfalso
      simp only [List.nodup_append] at hd
      exact hd.2.2 m (root_mem q) m (by simp [cells]) rfl
  · rfl
theorem mk'_root (f : Stp) (t : Tr) : (f.mk' t).root = (f.n : Int) := by unfold Stp.mk'; split <;> exact mk_root
theorem mk'_size (f : Stp) (t : Tr) : (f.mk' t).size = f.sib.size + t.size + 1 := by
  rw [← size_items, (mk_items' f t).length_eq]; simp [size_items]

/-- a round of detach -/
theorem det_round {s : St} {f : Stp} {r : Nat} {up : Int} {t : Tr} (ok : Ok s) (hf : StpIn (LS s) (hasS s) f r up) (ht : Hp (LS s) (hasS s) t) (hs : chS s (f.n : Int) (f.dn : Int) = t.root) (hnd : (f.n :: f.i :: (f.sib.cells ++ t.cells)).Nodup) :
    rkS s (lcS s (f.n : Int)) ≤ ((t.rank + f.sib.rank : Nat) : Int) ∧ rkS s (rcS s (f.n : Int)) ≤ ((t.rank + f.sib.rank : Nat) : Int) ∧ Sm s (dtS s (f.n : Int)) ∧
    Hp (LS s) (hasS (dtS s (f.n : Int))) (f.mk' t) ∧
    (∀ a j, (a ≠ f.n ∨ (j ≠ 2 ∧ j ≠ 3 ∧ j ≠ 4)) → (j ≠ 0 ∨ (f.sib.root ≠ (a : Int) ∧ t.root ≠ (a : Int))) → hasS (dtS s (f.n : Int)) a j = hasS s a j) ∧
    dtB s (f.n : Int) = ((r : Int) != (((f.mk' t).rank : Nat) : Int)) := by
  obtain ⟨b, n, i, sib⟩ := f
  obtain ⟨a1, a2, b1, b3, b4, b5, b6, u2, hr, uu⟩ := hf
  simp only at *
  have ok4 := (Sm.tk ok 4).ok
  have sm4 : Sm s (dtS s (n : Int)) := (Sm.tk ok 4).trans (Sm.lean ok4 _ _ _)
  cases b with
  | true =>
    have e2 : chS s (n : Int) 2 = t.root := hs
    have e3 : chS s (n : Int) 3 = sib.root := ch_tree (k := 3) ok a1 (by decide) b3 hr u2
    have hd' : (t.cells ++ sib.cells).Nodup := by
      simp only [List.nodup_cons] at hnd
      exact (List.Perm.nodup_iff List.perm_append_comm).1 hnd.2.2
    have el : lcS s (n : Int) = t.root := e2
    have er : rcS s (n : Int) = sib.root := rc_two e2 e3 hd'
    have hnd' : (n :: i :: (t.cells ++ sib.cells)).Nodup := (List.Perm.nodup_iff (.cons n (.cons i List.perm_append_comm))).1 hnd
    obtain ⟨x1, x2, x3⟩ := lean_tree (s := tk s 4) ok4 ht hr hnd' a1 a2 b1 b5 b6
    have y1 := rk_tree ht
    have y2 := rk_tree hr
    refine ⟨by rw [el, y1]; omega, by rw [er, y2]; omega, sm4, ?_, ?_, ?_⟩
    · unfold dtS; rw [el, er]; exact x1
    · intro a j p q
      unfold dtS; rw [el, er]
      exact x2 a j p (q.imp id fun z => z.symm)
    · unfold dtB; rw [el, er, x3]
      show (hasS s n 4 != _) = _
      rw [b4]; rfl
  | false =>
    have e3 : chS s (n : Int) 3 = t.root := hs
    have e2 : chS s (n : Int) 2 = sib.root := ch_tree (k := 2) ok a1 (by decide) b3 hr u2
    have hd' : (sib.cells ++ t.cells).Nodup := by
      simp only [List.nodup_cons] at hnd
      exact hnd.2.2
    have el : lcS s (n : Int) = sib.root := e2
    have er : rcS s (n : Int) = t.root := rc_two e2 e3 hd'
    obtain ⟨x1, x2, x3⟩ := lean_tree (s := tk s 4) ok4 hr ht hnd a1 a2 b1 b5 b6
    have y1 := rk_tree ht
    have y2 := rk_tree hr
    refine ⟨by rw [el, y2]; omega, by rw [er, y1]; omega, sm4, ?_, ?_, ?_⟩
    · unfold dtS; rw [el, er]; exact x1
    · intro a j p q
      unfold dtS; rw [el, er]
      exact x2 a j p q
    · unfold dtB; rw [el, er, x3]
      show (hasS s n 4 != _) = _
      rw [b4]; rfl

/-- what detach's rounds do -/
structure Det (k : Nat) (s : St) (c : List Stp) (t t' : Tr) : Prop where
  ok : dOk k s (topn c)
  sm : Sm s (detS k s (topn c))
  hp : Hp (LS s) (hasS (detS k s (topn c))) (detT c t t')
  up : upIs (hasS (detS k s (topn c))) (detT c t t') (-1)
  rest : ∀ a j, (a ∉ pcells c ++ t'.cells ∨ (j ≠ 0 ∧ j ≠ 2 ∧ j ≠ 3 ∧ j ≠ 4)) → hasS (detS k s (topn c)) a j = hasS s a j

theorem det_tree (N : Nat) (hN : N < 100000) : ∀ (c : List Stp) (t t' : Tr) (s : St) (k : Nat), Ok s → Pth (LS s) (hasS s) c t.rank → Hp (LS s) (hasS s) t' → (∀ f c', c = f :: c' → chS s (f.n : Int) (f.dn : Int) = t'.root) → upIs (hasS s) t' (topn c) → (pcells c ++ t'.cells).Nodup → (plug c t).Lft → t'.Lft → t'.rank < t.rank → (plug c t).size ≤ N → bts N + 2 ≤ k + t'.rank → Det k s c t t'
  | [], t, t', s, k, ok, hp, ht, hs, hu, hn, hl, hl', hr, hz, hk => by
    have h1 := rank_bts hl
    have h2 := bts_mono hz
    have h1' : t.rank ≤ bts t.size := h1
    have h2' : bts t.size ≤ bts N := h2
    obtain ⟨k', rfl⟩ : ∃ k', k = k' + 1 := ⟨k - 1, by omega⟩
    have e : detS (k' + 1) s (topn []) = tk s 4 := by show detS (k' + 1) s (-1) = _; unfold detS; rw [if_pos rfl]
    refine ⟨Or.inl rfl, ?_, ?_, ?_, ?_⟩ <;> rw [e]
    · exact Sm.tk ok 4
    · exact ht
    · exact hu
    · exact fun _ _ _ => rfl
  | f :: c, t, t', s, k, ok, hp, ht, hs, hu, hn, hl, hl', hr, hz, hk => by
    obtain ⟨hf, hlk, hp'⟩ := hp
    have hlo := plug_lft c (f.on t) hl
    have hlt := plug_lft (f :: c) t hl
    have z1 := (plug_size (f :: c) t).1
    have z2 := (plug_size (f :: c) t).2 f (by simp)
    have r1 := rank_bts hlt
    have r2 := bts_mono (Nat.le_trans z1 hz)
    have r3 := rank_le f.sib
    have r4 := rank_le t
    obtain ⟨k', rfl⟩ : ∃ k', k = k' + 1 := ⟨k - 1, by omega⟩
    have hn1 : (f.n :: f.i :: (f.sib.cells ++ t'.cells)).Nodup ∧ (pcells c).Nodup ∧ (∀ a, (a = f.n ∨ a = f.i ∨ a ∈ f.sib.cells ∨ a ∈ t'.cells) → a ∉ pcells c) := by
      have hq : (f.n :: f.i :: (f.sib.cells ++ t'.cells) ++ pcells c).Perm (pcells (f :: c) ++ t'.cells) := by
        rw [List.perm_iff_count]
        intro a
        simp only [pcells, List.count_append, List.count_cons]
        omega
      have := hq.nodup_iff.2 hn
      rw [List.nodup_append] at this
      refine ⟨this.1, this.2.1, fun a ha q => this.2.2 a ?_ a q rfl⟩
      simp only [List.mem_cons, List.mem_append]
      rcases ha with h | h | h | h
      · exact Or.inl h
      · exact Or.inr (Or.inl h)
      · exact Or.inr (Or.inr (Or.inl h))
      · exact Or.inr (Or.inr (Or.inr h))
    obtain ⟨hn1, hn2, hn3⟩ := hn1
    obtain ⟨k1, k2, sm, hh, fr, eb⟩ := det_round ok hf ht (hs f c rfl) hn1
    have hcp : ∀ a ∈ pcells c, ∀ j, hasS (dtS s (f.n : Int)) a j = hasS s a j := fun a ha j => by
      refine fr a j (Or.inl fun q => hn3 a (Or.inl q) ha) (Or.inr ⟨fun q => hn3 a (Or.inr (Or.inr (Or.inl (root_mem q)))) ha, fun q => hn3 a (Or.inr (Or.inr (Or.inr (root_mem q)))) ha⟩)
    have hp2 : Pth (LS s) (hasS (dtS s (f.n : Int))) c (f.rk t.rank) := hp'.like hn2 (fun _ _ => rfl) hcp
    have hlk2 : lnk (hasS (dtS s (f.n : Int))) c (f.mk' t').root := by
      rw [mk'_root]
      cases c with
      | nil => trivial
      | cons g c => show hasS (dtS s (f.n : Int)) g.n g.dn = _; rw [hcp g.n (by simp [pcells])]; exact hlk
    have hfn : f.n ∉ f.sib.cells ∧ f.n ∉ t'.cells := by
      simp only [List.nodup_cons, List.mem_cons, List.mem_append, not_or] at hn1
      exact ⟨hn1.1.2.1, hn1.1.2.2⟩
    have eu : hasS (dtS s (f.n : Int)) f.n 0 = topn c := by
      rw [fr f.n 0 (Or.inr ⟨by decide, by decide, by decide⟩) (Or.inr ⟨fun q => hfn.1 (root_mem q), fun q => hfn.2 (root_mem q)⟩)]
      exact hf.up
    have hup2 : upIs (hasS (dtS s (f.n : Int))) (f.mk' t') (topn c) := by
      rw [up_root, mk'_root]
      intro a ha
      have : f.n = a := by omega
      subst this
      exact eu
    have hrest : ∀ a j, (a ∉ pcells (f :: c) ++ t'.cells ∨ (j ≠ 0 ∧ j ≠ 2 ∧ j ≠ 3 ∧ j ≠ 4)) → hasS (dtS s (f.n : Int)) a j = hasS s a j := fun a j h => by
      rcases h with h | h
      · simp only [pcells, List.mem_append, List.mem_cons, not_or] at h
        exact fr a j (Or.inl h.1.1) (Or.inr ⟨fun q => h.1.2.2.1 (root_mem q), fun q => h.2 (root_mem q)⟩)
      · exact fr a j (Or.inr ⟨h.2.1, h.2.2.1, h.2.2.2⟩) (Or.inl h.1)
    have hne : ¬ ((f.n : Int) = -1) := by omega
    have w1 : rkS s (lcS s (f.n : Int)) < 1000000 := by omega
    have w2 : rkS s (rcS s (f.n : Int)) < 1000000 := by omega
    by_cases q : (f.mk' t').rank = (f.on t).rank
    · have hb : dtB s (f.n : Int) = false := by rw [eb, q, on_rk]; simp
      have e : detS (k' + 1) s (topn (f :: c)) = dtS s (f.n : Int) := by show detS (k' + 1) s (f.n : Int) = _; unfold detS; rw [if_neg hne, hb, if_neg (by decide)]
      have et : detT (f :: c) t t' = plug c (f.mk' t') := by unfold detT; rw [if_pos q]
      obtain ⟨g1, g2⟩ := pth_to c (f.mk' t') (by rw [q, on_rk]; exact hp2) hh hlk2 hup2
      refine ⟨Or.inr ⟨w1, w2, Or.inl hb⟩, ?_, ?_, ?_, ?_⟩ <;> rw [e]
      · exact sm
      · rw [et]; exact g1
      · rw [et]; exact g2
      · exact hrest
    · obtain ⟨s1, s2⟩ := rank_step hlo hr q
      have hb : dtB s (f.n : Int) = true := by
        rw [eb, ← on_rk]
        simp only [bne_iff_ne, ne_eq]
        omega
      have et : detT (f :: c) t t' = detT c (f.on t) (f.mk' t') := by rw [detT, if_neg q]
      have lfn : LS (dtS s (f.n : Int)) f.n = true := by rw [sm.ls]; exact hf.ln
      have ec : cellS (dtS s (f.n : Int)) (f.n : Int) 0 = topn c := by
        cases c with
        | nil => exact cell_neg (j := 0) lfn (by decide) eu
        | cons g c => exact cell_nat (j := 0) sm.ok lfn (by decide) eu (by rw [sm.ls]; exact hp'.1.ln)
      have e : detS (k' + 1) s (topn (f :: c)) = detS k' (tk (dtS s (f.n : Int)) 1) (topn c) := by show detS (k' + 1) s (f.n : Int) = _; rw [detS, if_neg hne, if_pos hb, ec]
      have smk := sm.trans (Sm.tk sm.ok 1)
      have hmLft : (f.mk' t').Lft := by
        have hsl := sib_lft (f :: c) t hl f (by simp)
        unfold Stp.mk'; split
        · exact mk_lft hl' hsl
        · exact mk_lft hsl hl'
      have D := det_tree N hN c (f.on t) (f.mk' t') (tk (dtS s (f.n : Int)) 1) k' smk.ok (by rw [smk.ls, on_rk]; exact hp2) (by rw [smk.ls]; exact hh)
        (fun g c' hc => by
          subst hc
          refine ch_tree (s := tk (dtS s (f.n : Int)) 1) (n := g.n) (k := g.dn) smk.ok (by rw [smk.ls]; exact hp'.1.ln) (by unfold Stp.dn; split <;> decide) hlk2 (by rw [smk.ls]; exact hh) hup2)
        hup2
        (by
          refine (List.Perm.nodup_iff ?_).1 hn
          have h := mk_cells' f t'
          rw [List.perm_iff_count] at h ⊢
          intro a
          have := h a
          simp only [pcells, List.count_append, List.count_cons] at this ⊢
          omega)
        hl hmLft s2 hz (by omega)
      refine ⟨Or.inr ⟨w1, w2, Or.inr ?_⟩, ?_, ?_, ?_, ?_⟩
      · show dOk k' (tk (dtS s (f.n : Int)) 1) (cellS (dtS s (f.n : Int)) (f.n : Int) 0)
        rw [ec]; exact D.ok
      · rw [e]; exact smk.trans D.sm
      · rw [e, et]; have := D.hp; rw [smk.ls] at this; exact this
      · rw [e, et]; exact D.up
      · intro a j h
        rw [e, D.rest a j ?_]
        · exact hrest a j h
        · refine h.imp (fun h z => h ?_) id
          rw [List.mem_append, (mk_cells' f t').mem_iff] at z
          simp only [pcells, List.mem_append, List.mem_cons] at z ⊢
          rcases z with z | z | z | z | z
          · exact Or.inl (Or.inr (Or.inr (Or.inr z)))
          · exact Or.inl (Or.inl z)
          · exact Or.inl (Or.inr (Or.inl z))
          · exact Or.inl (Or.inr (Or.inr (Or.inl z)))
          · exact Or.inr z
end Go.Proofs.YtnkpopeahmjodaaGreat
