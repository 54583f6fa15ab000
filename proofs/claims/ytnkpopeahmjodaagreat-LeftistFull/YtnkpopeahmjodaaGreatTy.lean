/- Two heaps and what they hold: Push, Pop, Meld; which is the least. -/
import Derived.Test.YtnkpopeahmjodaaGreatTx
namespace Go.Proofs.YtnkpopeahmjodaaGreat
open Go.ChangeShapes Go.WideShapes Go.ChangeAt Go.RowKit
open Tr

section
variable {s s' : St} {t u : Tr} {L M : List (Nat × Int × Int)} {i : Nat}
/-- Push, ahead of its meld: a heap of one, beside the others -/
theorem pu_view (h : Inv1 s t u L M i) (hx : 0 ≤ nextS s) : ∃ n : Nat, nextS s = (n : Int) ∧ LS (takeS (tk s 1)) n = true ∧ LS (takeS (tk s 1)) i = true ∧ n ≠ i ∧ n ∉ t.cells ∧ n ∉ u.cells ∧
    Ok (puS s (i : Int)) ∧ Hh (puS s (i : Int)) t L ∧ Hh (puS s (i : Int)) u M ∧ Gd (puS s (i : Int)) (nd n i lf lf) ∧ cnt (puS s (i : Int)).pl = cnt s.pl + 1 ∧ hasS (puS s (i : Int)) i 7 = hasS s i 7 ∧ hasS (puS s (i : Int)) i 8 = hasS s i 8 := by
  have hk1 := Sm.tk h.ok 1
  obtain ⟨n, e, h1, h2, h3, h4⟩ := take_view hk1.ok (show 0 ≤ nextS (tk s 1) from hx)
  have e' : nextS s = (n : Int) := e
  have hni : n ≠ i := fun q => by subst q; rw [show LS (tk s 1) n = LS s n from rfl, h.live] at h1; cases h1
  have ok1 := hk1.ok.take
  have ln : LS (takeS (tk s 1)) n = true := by rw [h2, if_pos rfl]
  have li : LS (takeS (tk s 1)) i = true := by rw [h2, if_neg (fun q => hni q.symm)]; exact h.live
  have hne : ∀ t : Tr, Gd s t → ∀ c ∈ t.cells, c ≠ n := fun t g c hc q => by subst q; rw [show LS (tk s 1) c = LS s c from rfl, g.live c hc] at h1; cases h1
  refine ⟨n, e', ln, li, hni, fun q => hne t h.a.gd n q rfl, fun q => hne u h.b.gd n q rfl, ?_⟩
  unfold puS
  rw [e']
  have m1 := Sm.set ok1 (n : Int) 6 (i : Int)
  have v1 : hasS (setS (takeS (tk s 1)) (n : Int) 6 (i : Int)) = put (hasS (takeS (tk s 1))) n 6 (i : Int) := set_has (j := 6) ln (by decide)
  have m2 := m1.trans (Sm.set m1.ok (i : Int) 9 (n : Int))
  have v2 : hasS (setS (setS (takeS (tk s 1)) (n : Int) 6 (i : Int)) (i : Int) 9 (n : Int)) = put (put (hasS (takeS (tk s 1))) n 6 (i : Int)) i 9 (n : Int) := by rw [← v1]; exact set_has (j := 9) (by rw [m1.ls]; exact li) (by decide)
  have m3 := m2.trans (Sm.set m2.ok (n : Int) 4 1)
  have v3 : hasS (setS (setS (setS (takeS (tk s 1)) (n : Int) 6 (i : Int)) (i : Int) 9 (n : Int)) (n : Int) 4 1) = put (put (put (hasS (takeS (tk s 1))) n 6 (i : Int)) i 9 (n : Int)) n 4 1 := by rw [← v2]; exact set_has (j := 4) (by rw [m2.ls]; exact ln) (by decide)
  generalize setS (setS (setS (takeS (tk s 1)) (n : Int) 6 (i : Int)) (i : Int) 9 (n : Int)) (n : Int) 4 1 = s3 at *
  have hk : ∀ c, c ≠ n → c ≠ i → LS s3 c = LS s c ∧ ∀ j, hasS s3 c j = hasS s c j := fun c hc hi => ⟨by rw [m3.ls, h2, if_neg hc]; rfl, fun j => by rw [v3, put_ne hc, put_ne hi, put_ne hc, h3, if_neg hc]; rfl⟩
  have vn : ∀ j, j ≠ 4 → j ≠ 6 → hasS s3 n j = fr j := fun j q4 q6 => by rw [v3, put_nj q4, put_ne hni, put_nj q6, h3, if_pos rfl]
  refine ⟨m3.ok, h.a.keep fun c hc => hk c (hne t h.a.gd c hc) (fun q => h.out.1 (q ▸ hc)), h.b.keep fun c hc => hk c (hne u h.b.gd c hc) (fun q => h.out.2 (q ▸ hc)), ⟨?_, ?_, ?_, ?_, ?_⟩, ?_, ?_, ?_⟩
  · refine ⟨⟨by rw [m3.ls]; exact ln, by rw [m3.ls]; exact li⟩, ⟨?_, ?_, ?_, ?_, ?_, ?_⟩, ⟨trivial, trivial⟩, trivial, trivial⟩
    · rw [vn 1 (by decide) (by decide)]; rfl
    · rw [vn 2 (by decide) (by decide)]; rfl
    · rw [vn 3 (by decide) (by decide)]; rfl
    · rw [v3, put_at]; rfl
    · rw [v3, put_nj (by decide), put_ne hni, put_at]
    · rw [v3, put_ne (fun q => hni q.symm), put_at]
  · simp [Tr.cells, hni]
  · show hasS s3 n 0 = -1
    rw [vn 0 (by decide) (by decide)]; rfl
  · exact ⟨Nat.le_refl _, trivial, trivial⟩
  · exact ⟨fun j hj => by simp [Tr.items] at hj, trivial, trivial⟩
  · rw [cnt_sm ok1 m3, h4]; rfl
  · rw [v3, put_ne (fun q => hni q.symm), put_nj (by decide), put_ne (fun q => hni q.symm), h3, if_neg (fun q => hni q.symm)]; rfl
  · rw [v3, put_ne (fun q => hni q.symm), put_nj (by decide), put_ne (fun q => hni q.symm), h3, if_neg (fun q => hni q.symm)]; rfl

/-- two of three heaps are melded -/
theorem meld_two {a b : Tr} {k : Nat} (ok : Ok s) (ha : Gd s a) (hb : Gd s b) (hu : Hh s u M) (hab : ∀ c ∈ a.cells, c ∉ b.cells) (hau : ∀ c ∈ a.cells, c ∉ u.cells) (hbu : ∀ c ∈ b.cells, c ∉ u.cells) (hk : a.rank + b.rank < k) (hz : a.size + b.size < 1000000) :
    mOk k s a.root b.root ∧ (meldS k s a.root b.root).1 = (ml (befF (hasS s)) k a b).root ∧ Gd (meldS k s a.root b.root).2 (ml (befF (hasS s)) k a b) ∧ Hh (meldS k s a.root b.root).2 u M ∧ (ml (befF (hasS s)) k a b).items.Perm (a.items ++ b.items) ∧ (ml (befF (hasS s)) k a b).cells.Perm (a.cells ++ b.cells) ∧
    Sm s (meldS k s a.root b.root).2 ∧ (∀ c j, (c ∉ a.nodes ∧ c ∉ b.nodes ∨ (j ≠ 0 ∧ j ≠ 2 ∧ j ≠ 3 ∧ j ≠ 4)) → hasS (meldS k s a.root b.root).2 c j = hasS s c j) := by
  have hn : (a.cells ++ b.cells).Nodup := List.nodup_append.2 ⟨ha.nd, hb.nd, fun c hc d hd e => hab c hc (e ▸ hd)⟩
  obtain ⟨m, g⟩ := gd_meld ok ha hb hn hk hz
  have sm := Sm.meld k ok a.root b.root
  exact ⟨m.ok, m.root, g, hu.keep fun c hc => ⟨by rw [sm.ls], fun j => m.rest c j (Or.inl ⟨fun q => hau c (nodes_sub q) hc, fun q => hbu c (nodes_sub q) hc⟩)⟩, ml_items k a b hk, ml_cells k a b hk, sm, m.rest⟩

/-- Push -/
theorem push_inv (h : Inv1 s t u L M i) (hx : 0 ≤ nextS s) (hz : L.length < 100000) (q : Nat) : ∃ n : Nat, nextS s = (n : Int) ∧ liveS (takeS (tk s 1)) (n : Int) = true ∧ liveS (takeS (tk s 1)) (i : Int) = true ∧ rootS (puS s (i : Int)) t.root = t.root ∧
    mOk (t.rank + 2) (tk (puS s (i : Int)) q) t.root (n : Int) ∧ ∃ t', (meldS (t.rank + 2) (tk (puS s (i : Int)) q) t.root (n : Int)).1 = t'.root ∧ Inv (meldS (t.rank + 2) (tk (puS s (i : Int)) q) t.root (n : Int)).2 t' u (L ++ [(i, hasS s i 7, hasS s i 8)]) M := by
  obtain ⟨n, e, l1, l2, n1, n2, n3, ok, ha, hb, g, c, e7, e8⟩ := pu_view h hx
  refine ⟨n, e, l1, l2, root_any ok ha.gd.hp ha.gd.up, ?_⟩
  have okq := (Sm.tk ok q).ok
  have hsz := h.a.len
  obtain ⟨m1, m2, m3, m4, m5, m6, m7, m8⟩ := meld_two (s := tk (puS s (i : Int)) q) (a := t) (b := nd n i lf lf) (k := t.rank + 2) okq (ha.gd.keep fun _ _ => ⟨rfl, fun _ => rfl⟩) (g.keep fun _ _ => ⟨rfl, fun _ => rfl⟩) (hb.keep fun _ _ => ⟨rfl, fun _ => rfl⟩)
    (fun c hc z => by simp [Tr.cells] at z; rcases z with rfl | rfl; exact n2 hc; exact h.out.1 hc) h.dj (fun c hc z => by simp [Tr.cells] at hc; rcases hc with rfl | rfl; exact n3 z; exact h.out.2 z) (by simp [Tr.rank]) (by simp only [Tr.size]; omega)
  rw [show (nd n i lf lf).root = (n : Int) from rfl] at m1 m2 m3 m4 m7 m8
  refine ⟨m1, _, m2, m7.ok, ⟨m3, ?_, ?_⟩, m4, ?_, ?_⟩
  · rw [List.map_append]
    refine ((ha.pm.append_right _).trans ?_).trans m5.symm
    simp [Tr.items]
  · intro x hx'
    rw [m8 x.1 7 (Or.inr (by decide)), m8 x.1 8 (Or.inr (by decide))]
    show hasS (puS s (i : Int)) x.1 7 = _ ∧ hasS (puS s (i : Int)) x.1 8 = _
    rw [List.mem_append] at hx'
    rcases hx' with hx' | hx'
    · exact ha.en x hx'
    · simp at hx'; subst hx'; exact ⟨e7, e8⟩
  · intro c hc z
    have := m6.mem_iff.1 hc
    rw [List.mem_append] at this
    rcases this with y | y
    · exact h.dj c y z
    · simp [Tr.cells] at y; rcases y with rfl | rfl; exact n3 z; exact h.out.2 z
  · rw [cnt_sm okq m7]
    show cnt (puS s (i : Int)).pl = _
    rw [c, h.num]; simp; omega

/-- Pop -/
theorem pop_inv {n : Nat} {l r : Tr} (h : Inv s (nd n i l r) u L M) (hz : L.length < 100000) {l1 l2 : List (Nat × Int × Int)} {x : Nat × Int × Int} (hL : L = l1 ++ x :: l2) (hx : x.1 = i) (q : Nat) :
    lcS s (n : Int) = l.root ∧ rcS s (n : Int) = r.root ∧ mOk (l.rank + r.rank + 1) (rmS (tk s q) (n : Int)) l.root r.root ∧
    ∃ t', (meldS (l.rank + r.rank + 1) (rmS (tk s q) (n : Int)) l.root r.root).1 = t'.root ∧ Inv1 (meldS (l.rank + r.rank + 1) (rmS (tk s q) (n : Int)) l.root r.root).2 t' u (l1 ++ l2) M i := by
  have hq := h.tk q
  refine ⟨lc_tree h.ok h.a.gd.hp, rc_tree h.ok h.a.gd.hp h.a.gd.nd, ?_⟩
  obtain ⟨v1, v2, v3, v4, v5⟩ := rm_view hq.ok hq.a.gd
  obtain ⟨g1, g2⟩ := gd_rm hq.ok hq.a.gd
  have hnd := h.a.gd.nd
  simp only [Tr.cells, List.nodup_cons, List.mem_cons, List.mem_append, List.nodup_append, not_or] at hnd
  obtain ⟨⟨n1, n2, n3⟩, ⟨n4, n5⟩, n6, n7, n8⟩ := hnd
  have hdj := h.dj
  have hcu : ∀ c ∈ u.cells, c ≠ n ∧ c ≠ i ∧ c ∉ l.cells ∧ c ∉ r.cells := fun c hc => ⟨fun z => hdj n (by simp [Tr.cells]) (z ▸ hc), fun z => hdj i (by simp [Tr.cells]) (z ▸ hc), fun z => hdj c (by simp [Tr.cells, z]) hc, fun z => hdj c (by simp [Tr.cells, z]) hc⟩
  have hu : Hh (rmS (tk s q) (n : Int)) u M := hq.b.keep fun c hc => by
    obtain ⟨y1, y2, y3, y4⟩ := hcu c hc
    refine ⟨by rw [v4, if_neg y1], fun j => ?_⟩
    rw [v5, if_neg (fun z => y2 z.1), if_neg]
    rintro ⟨_, z | z⟩
    · exact y3 (root_mem z)
    · exact y4 (root_mem z)
  have hsz := h.a.len
  simp only [Tr.size] at hsz
  obtain ⟨m1, m2, m3, m4, m5, m6, m7, m8⟩ := meld_two (k := l.rank + r.rank + 1) v1 g1 g2 hu (fun c hc z => n8 c hc c z rfl) (fun c hc z => (hcu c z).2.2.1 hc) (fun c hc z => (hcu c z).2.2.2 hc) (by omega) (by omega)
  have hpm := h.a.pm
  rw [hL, List.map_append, List.map_cons, hx] at hpm
  have hi1 : i ∉ l.items ++ r.items := fun z => by rw [List.mem_append] at z; exact z.elim (fun z => n4 (items_sub z)) (fun z => n5 (items_sub z))
  have hpm' : ((l1 ++ l2).map (fun x => x.1)).Perm (l.items ++ r.items) := by
    rw [List.map_append]
    have := (List.perm_middle (a := i) (l₁ := l1.map (fun x => x.1)) (l₂ := l2.map (fun x => x.1))).symm.trans hpm
    exact List.Perm.cons_inv this
  refine ⟨m1, _, m2, m7.ok, ⟨m3, hpm'.trans m5.symm, ?_⟩, m4, ?_, ?_, ?_, ⟨?_, ?_⟩, ?_⟩
  · intro y hy
    have hyi : y.1 ≠ i := fun z => hi1 (hpm'.mem_iff.1 (z ▸ List.mem_map.2 ⟨y, hy, rfl⟩))
    rw [m8 y.1 7 (Or.inr (by decide)), m8 y.1 8 (Or.inr (by decide)), v5, v5, if_neg (by omega), if_neg (by omega), if_neg (by omega), if_neg (by omega)]
    exact h.a.en y (by rw [hL]; rw [List.mem_append] at hy; simp; rcases hy with hy | hy; exact Or.inl hy; exact Or.inr (Or.inr hy))
  · intro c hc z
    have := m6.mem_iff.1 hc
    rw [List.mem_append] at this
    rcases this with y | y
    · exact (hcu c z).2.2.1 y
    · exact (hcu c z).2.2.2 y
  · rw [cnt_sm v1 m7]
    have c1 := v1.count
    have c2 := h.ok.count
    rw [v2, v3] at c1
    have e1 : (tk s q).back = s.back := rfl
    have e2 : (tk s q).pl = s.pl := rfl
    rw [e1, e2] at c1
    have c3 := h.num
    rw [hL] at c3
    simp at c1 c3 ⊢
    omega
  · rw [m7.ls, v4, if_neg (fun z => n1 z.symm)]; exact h.a.gd.hp.1.2
  · intro z
    have := m6.mem_iff.1 z
    rw [List.mem_append] at this
    exact this.elim n4 n5
  · exact fun z => (hcu i z).2.1 rfl
  · rw [m8 i 9 (Or.inr (by decide)), v5, if_pos ⟨rfl, rfl⟩]

/-- Meld -/
theorem meld_inv (h : Inv s t u L M) (hz : L.length + M.length < 100000) (q : Nat) : rootS s t.root = t.root ∧ rootS s u.root = u.root ∧ mOk (t.rank + u.rank + 1) (tk s q) t.root u.root ∧
    ∃ t', (meldS (t.rank + u.rank + 1) (tk s q) t.root u.root).1 = t'.root ∧ Inv (meldS (t.rank + u.rank + 1) (tk s q) t.root u.root).2 t' lf (L ++ M) [] := by
  have hq := h.tk q
  refine ⟨root_any h.ok h.a.gd.hp h.a.gd.up, root_any h.ok h.b.gd.hp h.b.gd.up, ?_⟩
  have h1 := h.a.len
  have h2 := h.b.len
  obtain ⟨m1, m2, m3, m4, m5, m6, m7, m8⟩ := meld_two (k := t.rank + u.rank + 1) hq.ok hq.a.gd hq.b.gd (Hh.nil _) h.dj (fun c _ z => by simp [Tr.cells] at z) (fun c _ z => by simp [Tr.cells] at z) (by omega) (by omega)
  refine ⟨m1, _, m2, m7.ok, ⟨m3, ?_, ?_⟩, m4, fun c _ z => by simp [Tr.cells] at z, ?_⟩
  · rw [List.map_append]; exact (h.a.pm.append h.b.pm).trans m5.symm
  · intro x hx
    rw [m8 x.1 7 (Or.inr (by decide)), m8 x.1 8 (Or.inr (by decide))]
    rw [List.mem_append] at hx
    exact hx.elim (h.a.en x) (h.b.en x)
  · rw [cnt_sm hq.ok m7]
    show cnt s.pl = _
    rw [h.num]; simp
end
end Go.Proofs.YtnkpopeahmjodaaGreat
