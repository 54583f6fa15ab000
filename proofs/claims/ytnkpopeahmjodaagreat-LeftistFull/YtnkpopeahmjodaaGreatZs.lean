/- Fall and Cut, as they turn two heaps. -/
import Derived.Test.YtnkpopeahmjodaaGreatZq
import Derived.Test.YtnkpopeahmjodaaGreatTy
namespace Go.Proofs.YtnkpopeahmjodaaGreat
open Go.ChangeShapes Go.WideShapes Go.ChangeAt Go.RowKit
open Tr

/-- a heap, of whose order nothing is said -/
structure Gz (s : St) (t : Tr) : Prop where
  hp : Hp (LS s) (hasS s) t
  nd : t.cells.Nodup
  up : upIs (hasS s) t (-1)
  lft : t.Lft
theorem Gd.gz {s : St} {t : Tr} (h : Gd s t) : Gz s t := ⟨h.hp, h.nd, h.up, h.lft⟩
theorem Gz.gd {s : St} {t : Tr} (h : Gz s t) (ho : t.Od (befF (hasS s))) : Gd s t := ⟨h.hp, h.nd, h.up, h.lft, ho⟩

theorem plug_two (c : List Stp) (f : Stp) (n i : Nat) (l r : Tr) : 2 ≤ (plug (f :: c) (nd n i l r)).size := by
  have h := (plug_size c (f.on (nd n i l r))).1
  have e : (f.on (nd n i l r)).size = (nd n i l r).size + f.sib.size + 1 := by unfold Stp.on; split <;> simp only [Tr.size]; omega
  simp only [Tr.size] at e
  show 2 ≤ (plug c (f.on (nd n i l r))).size
  omega
theorem fix_root : ∀ (c : List Stp) (f : Stp) (t t' : Tr), (fix (f :: c) t').root = (plug (f :: c) t).root
  | [], f, t, t' => by show (f.mk' t').root = (f.on t).root; rw [mk'_root]; unfold Stp.on; split <;> rfl
  | g :: c, f, t, t' => fix_root c g (f.on t) (f.mk' t')

theorem det_gz {s : St} {f : Stp} {c : List Stp} {n i : Nat} {l r : Tr} (k kd N : Nat) (ok : Ok s) (h : Gz s (plug (f :: c) (nd n i l r))) (hz : (plug (f :: c) (nd n i l r)).size ≤ N) (hN : N < 100000) (hk : bts N + 2 ≤ kd) :
    cellS s (n : Int) 0 = (f.n : Int) ∧ dOk kd (setS (tk (tk s k) 1) (n : Int) 0 (-1)) (cellS s (n : Int) 0) ∧ Sm s (dS kd s (n : Int) k) ∧ Gz (dS kd s (n : Int) k) (nd n i l r) ∧ Gz (dS kd s (n : Int) k) (fix (f :: c) lf) ∧
    (∀ a j, (a ∉ (plug (f :: c) (nd n i l r)).cells ∨ (j ≠ 0 ∧ j ≠ 2 ∧ j ≠ 3 ∧ j ≠ 4)) → hasS (dS kd s (n : Int) k) a j = hasS s a j) := by
  obtain ⟨p, hh, hl, hu⟩ := pth_of (f :: c) (nd n i l r) h.hp h.up
  have hn0 : hasS s n 0 = (f.n : Int) := hu
  have lfn := p.1.ln
  have lnn := hh.1.1
  have ec : cellS s (n : Int) 0 = (f.n : Int) := cell_nat (j := 0) ok lnn (by decide) hn0 lfn
  have hnd := (plug_cells (f :: c) (nd n i l r)).nodup_iff.1 h.nd
  rw [List.nodup_append] at hnd
  obtain ⟨nd1, nd2, nd3⟩ := hnd
  have nin : n ∉ pcells (f :: c) := fun q => nd3 n q n (by simp [cells]) rfl
  unfold dS
  rw [ec]
  have ok2 := (Sm.tk (Sm.tk ok k).ok 1).ok
  have sm : Sm s (setS (tk (tk s k) 1) (n : Int) 0 (-1)) := ((Sm.tk ok k).trans (Sm.tk (Sm.tk ok k).ok 1)).trans (Sm.set ok2 (n : Int) 0 (-1))
  have hv : hasS (setS (tk (tk s k) 1) (n : Int) 0 (-1)) = put (hasS s) n 0 (-1) := set_has (s := tk (tk s k) 1) (j := 0) lnn (by decide)
  generalize setS (tk (tk s k) 1) (n : Int) 0 (-1) = s2 at *
  have D := det_tree N hN (f :: c) (nd n i l r) lf s2 kd sm.ok
    (by rw [sm.ls]; exact p.like nd1 (fun _ _ => rfl) (fun a ha j => by rw [hv, put_ne (fun q : a = n => nin (q ▸ ha))]))
    trivial
    (fun g c' hc => by
      injection hc with h1 h2
      subst h1
      unfold chS
      have hd9 : f.dn ≤ 9 := by unfold Stp.dn; split <;> decide
      have hfn : hasS s2 f.n f.dn = (n : Int) := by rw [hv, put_ne (fun q : f.n = n => nin (by rw [← q]; simp [pcells]))]; exact hl
      have e1 : cellS s2 (f.n : Int) (f.dn : Int) = (n : Int) := cell_nat sm.ok (by rw [sm.ls]; exact lfn) hd9 hfn (by rw [sm.ls]; exact lnn)
      have e2 : cellS s2 (n : Int) 0 = -1 := cell_neg (j := 0) (by rw [sm.ls]; exact lnn) (by decide) (by rw [hv, put_at])
      rw [e1, e2, if_neg (by omega)]
      rfl)
    trivial (by simp only [cells, List.append_nil]; exact nd1) h.lft trivial (by simp only [rank]; omega) hz (by simp only [rank]; omega)
  have eD : detT (f :: c) (nd n i l r) lf = fix (f :: c) lf := detT_fix _ _ _ h.lft (show (lf : Tr).Lft from trivial)
  have Dhp := D.hp
  have Dup := D.up
  rw [eD] at Dhp Dup
  have hsl := sib_lft (f :: c) (nd n i l r) h.lft
  have frame : ∀ a j, (a ∉ pcells (f :: c) ∨ (j ≠ 0 ∧ j ≠ 2 ∧ j ≠ 3 ∧ j ≠ 4)) → hasS (detS kd s2 (f.n : Int)) a j = hasS s2 a j := fun a j q => D.rest a j (by simpa [cells] using q)
  have hn9 : ∀ a ∈ (nd n i l r).cells, a ∉ pcells (f :: c) := fun a ha q => nd3 a q a ha rfl
  refine ⟨rfl, D.ok, sm.trans D.sm, ⟨?_, nd2, ?_, plug_lft (f :: c) _ h.lft⟩, ⟨?_, ?_, Dup, fix_lft _ _ hsl (show (lf : Tr).Lft from trivial)⟩, ?_⟩
  · have els : LS (detS kd s2 (f.n : Int)) = LS s := (sm.trans D.sm).ls
    rw [els]
    refine hh.like nd2 (fun _ _ => rfl) fun a ha j q => ?_
    rw [frame a j (Or.inl (hn9 a ha)), hv, put_or]
    by_cases z : a = n
    · right; intro y; exact q y (by rw [z]; rfl)
    · exact Or.inl z
  · show hasS (detS kd s2 (f.n : Int)) n 0 = -1
    rw [frame n 0 (Or.inl nin), hv, put_at]
  · have e1 : LS (detS kd s2 (f.n : Int)) = LS s2 := D.sm.ls
    rw [e1]; exact Dhp
  · refine (fix_cells (f :: c) lf).nodup_iff.2 ?_
    simp only [cells, List.append_nil]; exact nd1
  · intro a j q
    have e1 : a ∉ pcells (f :: c) ∨ (j ≠ 0 ∧ j ≠ 2 ∧ j ≠ 3 ∧ j ≠ 4) := q.imp (fun z y => z ((plug_cells _ _).mem_iff.2 (List.mem_append.2 (Or.inl y)))) id
    rw [frame a j e1, hv, put_or]
    rcases q with q | q
    · left; intro z; subst z; exact q ((plug_cells _ _).mem_iff.2 (List.mem_append.2 (Or.inr (by simp [cells]))))
    · exact Or.inr q.1

/-- another order of some below: it holds above them, if they do not pass what is just above -/
theorem plug_od2 {lt lt' : Nat → Nat → Bool} (ht : Tot lt') : ∀ (c : List Stp) (t : Tr), (plug c t).Od lt → t.Od lt' → (∀ a ∈ pitems c, ∀ b ∈ pitems c, lt a b = lt' a b) → (∀ f c', c = f :: c' → ∀ j ∈ t.items, lt' j f.i = false) → (plug c t).Od lt'
  | [], t, _, h, _, _ => h
  | f :: c, t, h, h', ha, hp => by
    have ho := plug_od c (f.on t) h
    have hf := hp f c rfl
    have hsub : ∀ j ∈ f.sib.items, j ∈ pitems (f :: c) := fun j hj => by simp [pitems, hj]
    have hs : f.sib.Od lt ∧ ∀ j ∈ f.sib.items, lt j f.i = false := by
      unfold Stp.on at ho
      split at ho
      · exact ⟨ho.2.2, fun j hj => ho.1 j (by simp [hj])⟩
      · exact ⟨ho.2.1, fun j hj => ho.1 j (by simp [hj])⟩
    have hs1 : f.sib.Od lt' := Od.mono _ (fun a x b y => ha a (hsub a x) b (hsub b y)) hs.1
    have hs2 : ∀ j ∈ f.sib.items, lt' j f.i = false := fun j hj => by rw [← ha j (hsub j hj) f.i (by simp [pitems])]; exact hs.2 j hj
    refine plug_od2 ht c (f.on t) h ?_ (fun a x b y => ha a (by simp [pitems, x]) b (by simp [pitems, y])) ?_
    · unfold Stp.on
      split
      · exact ⟨fun j hj => by rw [List.mem_append] at hj; exact hj.elim (hf j) (hs2 j), h', hs1⟩
      · exact ⟨fun j hj => by rw [List.mem_append] at hj; exact hj.elim (hs2 j) (hf j), hs1, h'⟩
    · intro g c' hc j hj
      subst hc
      have hg := plug_od c' (g.on (f.on t)) h
      have hg1 : ∀ j ∈ (f.on t).items, lt j g.i = false := by
        unfold Stp.on at hg
        split at hg
        · exact fun j hj => hg.1 j (by rw [List.mem_append]; left; exact hj)
        · exact fun j hj => hg.1 j (by rw [List.mem_append]; right; exact hj)
      have hgi : g.i ∈ pitems (f :: g :: c') := by simp [pitems]
      have hfi : lt' f.i g.i = false := by
        rw [← ha f.i (by simp [pitems]) g.i hgi]
        exact hg1 f.i (by rw [(on_items f t).mem_iff]; simp)
      rw [(on_items f t).mem_iff] at hj
      simp only [List.mem_cons, List.mem_append] at hj
      rcases hj with rfl | hj | hj
      · exact hfi
      · exact ht.le g.i f.i j hfi (hs2 j hj)
      · exact ht.le g.i f.i j hfi (hf j hj)

/-- an entry's Key is no link -/
theorem Hp.seven {L : Nat → Bool} {f : Nat → Nat → Int} {c : Nat} {v : Int} : ∀ {t : Tr}, Hp L f t → Hp L (put f c 7 v) t
  | lf, _ => trivial
  | nd n i l r, ⟨a, ⟨b1, b2, b3, b4, b5, b6⟩, ⟨u1, u2⟩, hl, hr⟩ => by
    refine ⟨a, ⟨?_, ?_, ?_, ?_, ?_, ?_⟩, ⟨?_, ?_⟩, Hp.seven hl, Hp.seven hr⟩
    · rw [put_nj (by decide)]; exact b1
    · rw [put_nj (by decide)]; exact b2
    · rw [put_nj (by decide)]; exact b3
    · rw [put_nj (by decide)]; exact b4
    · rw [put_nj (by decide)]; exact b5
    · rw [put_nj (by decide)]; exact b6
    · exact u1.like fun c _ => put_nj (by decide)
    · exact u2.like fun c _ => put_nj (by decide)
theorem bef_low {f : Nat → Nat → Int} {i j : Nat} {v : Int} (hv : v ≤ f i 7) (hj : j ≠ i) (h : befF f j i = false) : befF (put f i 7 v) j i = false := by
  have e1 : put f i 7 v j = f j := put_ne hj
  have e2 : put f i 7 v i 7 = v := put_at
  have e3 : put f i 7 v i 8 = f i 8 := put_nj (by decide)
  simp only [befF, bef, e1, e2, e3] at h ⊢
  simp at h ⊢
  omega
theorem bef_other {f : Nat → Nat → Int} {i a b : Nat} {v : Int} (ha : a ≠ i) (hb : b ≠ i) : befF f a b = befF (put f i 7 v) a b := by
  unfold befF; rw [put_ne ha, put_ne hb]
theorem items_nodup {t : Tr} (h : t.cells.Nodup) : t.items.Nodup := by
  have := (cells_perm t).nodup_iff.1 h
  rw [List.nodup_append] at this
  exact this.2.1

section
variable {s : St} {t u : Tr} {L M l1 l2 : List (Nat × Int × Int)} {x : Nat × Int × Int}
/-- Fall, of an item whose Key was lowered -/
theorem fall_inv (h : Inv s t u L M) (hz : L.length + M.length < 100000) (hL : L = l1 ++ x :: l2) (key : Int) (hk : key ≤ x.2.1) :
    lowB s (x.1 : Int) key = true ∧ (lowS s (x.1 : Int) key).steps = s.steps + 2 ∧ (lowS s (x.1 : Int) key).most = s.most ∧ ∃ n : Nat, cellS (lowS s (x.1 : Int) key) (x.1 : Int) 9 = (n : Int) ∧ Cl (n : Int) ∧ Cl t.root ∧
    (((belB (lowS s (x.1 : Int) key) t.root (n : Int) = false ∨ nbS (lowS s (x.1 : Int) key) (n : Int) (cellS (lowS s (x.1 : Int) key) (n : Int) 0) = false) ∧ Inv (lowS s (x.1 : Int) key) t u (l1 ++ l2 ++ [(x.1, key, x.2.2)]) M) ∨
     (2 ≤ L.length ∧ belB (lowS s (x.1 : Int) key) t.root (n : Int) = true ∧ nbS (lowS s (x.1 : Int) key) (n : Int) (cellS (lowS s (x.1 : Int) key) (n : Int) 0) = true ∧
      (∀ k, dOk (bts L.length + 2) (setS (tk (tk (lowS s (x.1 : Int) key) k) 1) (n : Int) 0 (-1)) (cellS (lowS s (x.1 : Int) key) (n : Int) 0)) ∧
      (∀ k, mOk (2 * bts L.length + 1) (dS (bts L.length + 2) (lowS s (x.1 : Int) key) (n : Int) k) t.root (n : Int)) ∧
      ∀ k, ∃ t', (meldS (2 * bts L.length + 1) (dS (bts L.length + 2) (lowS s (x.1 : Int) key) (n : Int) k) t.root (n : Int)).1 = t'.root ∧ Inv (meldS (2 * bts L.length + 1) (dS (bts L.length + 2) (lowS s (x.1 : Int) key) (n : Int) k) t.root (n : Int)).2 t' u (l1 ++ l2 ++ [(x.1, key, x.2.2)]) M)) := by
  obtain ⟨i, k0, ser⟩ := x
  simp only at hk ⊢
  have hxm : (i, k0, ser) ∈ L := by rw [hL]; simp
  have hen := h.a.en _ hxm
  simp only at hen
  have him : i ∈ t.items := h.a.mem hxm
  have lii : LS s i = true := h.a.gd.live i (items_sub him)
  have hiu : i ∉ u.cells := h.dj i (items_sub him)
  have g7 : getS s (i : Int) 7 = k0 := (get_nat (j := 7) lii (by decide)).trans hen.1
  have eB : lowB s (i : Int) key = true := by unfold lowB; rw [g7, if_neg (by omega)]; exact may_nat (j := 7) lii (by decide)
  have eS : lowS s (i : Int) key = setS (tk s 1) (i : Int) 7 key := by unfold lowS; rw [g7, if_neg (by omega)]
  have sm : Sm s (lowS s (i : Int) key) := by rw [eS]; exact (Sm.tk h.ok 1).trans (Sm.set (Sm.tk h.ok 1).ok _ _ _)
  have hv : hasS (lowS s (i : Int) key) = put (hasS s) i 7 key := by rw [eS]; exact set_has (s := tk s 1) (j := 7) lii (by decide)
  have est : (lowS s (i : Int) key).steps = s.steps + 2 := by rw [eS, set_steps]; rfl
  refine ⟨eB, est, sm.most, ?_⟩
  generalize lowS s (i : Int) key = s' at *
  clear eS est eB
  obtain ⟨c, n, l, r, ht⟩ := find_path t i him
  have hlen := h.a.len
  -- the heap as it stands
  have gz : Gz s' t := ⟨by rw [sm.ls, hv]; exact h.a.gd.hp.seven, h.a.gd.nd, by rw [hv]; exact h.a.gd.up.like (fun c _ => put_nj (by decide)), h.a.gd.lft⟩
  have hub : Hh s' u M := h.b.keep fun c hc => ⟨by rw [sm.ls], fun j => by rw [hv, put_ne (fun q : c = i => hiu (q ▸ hc))]⟩
  have hpl : Hp (LS s') (hasS s') (nd n i l r) := by
    have := gz.hp
    rw [ht] at this
    exact (pth_of c (nd n i l r) this (by have := gz.up; rw [ht] at this; exact this)).2.1
  have ok' := sm.ok
  have enode : cellS s' (i : Int) 9 = (n : Int) := no_tree ok' hpl
  have hint := items_nodup h.a.gd.nd
  have hinp : i ∉ pitems c ∧ i ∉ l.items ∧ i ∉ r.items := by
    rw [ht] at hint
    have := (plug_items c (nd n i l r)).nodup_iff.1 hint
    simp only [items, List.nodup_append, List.nodup_cons, List.mem_append, not_or] at this
    exact ⟨fun q => this.2.2 i q i (by simp) rfl, this.2.1.1.1, this.2.1.1.2⟩
  -- the order below, and away from it
  have od0 : (plug c (nd n i l r)).Od (befF (hasS s)) := by have := h.a.gd.od; rw [ht] at this; exact this
  have odn : (nd n i l r).Od (befF (hasS s')) := by
    have o := plug_od c _ od0
    rw [hv]
    refine ⟨fun j hj => bef_low (by rw [hen.1]; exact hk) (fun q => ?_) (o.1 j hj), Od.mono l (fun a ha b hb => bef_other (fun q => hinp.2.1 (q ▸ ha)) (fun q => hinp.2.1 (q ▸ hb))) o.2.1, Od.mono r (fun a ha b hb => bef_other (fun q => hinp.2.2 (q ▸ ha)) (fun q => hinp.2.2 (q ▸ hb))) o.2.2⟩
    subst q
    rw [List.mem_append] at hj
    exact hj.elim hinp.2.1 hinp.2.2
  have hpi : ∀ a ∈ pitems c, ∀ b ∈ pitems c, befF (hasS s) a b = befF (hasS s') a b := fun a ha b hb => by
    rw [hv]; exact bef_other (fun q => hinp.1 (q ▸ ha)) (fun q => hinp.1 (q ▸ hb))
  -- what the list is now
  have hpm : ((l1 ++ l2 ++ [(i, key, ser)]).map (fun x => x.1)).Perm t.items := by
    refine List.Perm.trans ?_ h.a.pm
    rw [hL]
    simp only [List.map_append, List.map_cons, List.map_nil, List.append_assoc]
    exact (List.perm_append_left_iff _).2 (List.perm_append_singleton _ _)
  have hLn : ∀ y ∈ l1 ++ l2, y.1 ≠ i := fun y hy q => by
    have e := h.a.pm.nodup_iff.2 hint
    rw [hL] at e
    simp only [List.map_append, List.map_cons] at e
    have e2 := (List.perm_middle (a := i) (l₁ := l1.map (fun x => x.1)) (l₂ := l2.map (fun x => x.1))).nodup_iff.1 e
    rw [List.nodup_cons, ← List.map_append] at e2
    exact e2.1 (List.mem_map.2 ⟨y, hy, q⟩)
  have hens : ∀ y ∈ l1 ++ l2 ++ [(i, key, ser)], hasS s' y.1 7 = y.2.1 ∧ hasS s' y.1 8 = y.2.2 := fun y hy => by
    rw [List.mem_append] at hy
    rcases hy with hy | hy
    · rw [hv, put_ne (hLn y hy)]
      refine h.a.en y ?_
      rw [hL]
      rw [List.mem_append] at hy
      simp only [List.mem_append, List.mem_cons]
      exact hy.imp id Or.inr
    · simp only [List.mem_singleton] at hy
      subst hy
      simp only
      rw [hv, put_at, put_nj (by decide)]
      exact ⟨rfl, hen.2⟩
  have hnum : cnt s'.pl = 2 * ((l1 ++ l2 ++ [(i, key, ser)]).length + M.length) := by
    rw [cnt_sm h.ok sm, h.num, hL]; simp only [List.length_append, List.length_cons, List.length_nil]; omega
  have stay : t.Od (befF (hasS s')) → Inv s' t u (l1 ++ l2 ++ [(i, key, ser)]) M := fun o => ⟨ok', ⟨gz.gd o, hpm, hens⟩, hub, h.dj, hnum⟩
  have cln : Cl (n : Int) := ls_cl ok' hpl.1.1
  have clr : Cl t.root := by
    rcases root_or gz.hp with e | ⟨a, e, la⟩
    · rw [e]; exact Cl.none
    · rw [e]; exact ls_cl ok' la
  refine ⟨n, enode, cln, clr, ?_⟩
  cases c with
  | nil =>
    have ht' : t = nd n i l r := ht
    refine Or.inl ⟨Or.inl ?_, stay (by rw [ht']; exact odn)⟩
    have hu0 : hasS s' n 0 = -1 := by have := gz.up; rw [ht'] at this; exact this
    have : cellS s' (n : Int) 0 = -1 := cell_neg (j := 0) hpl.1.1 (by decide) hu0
    unfold belB
    rw [this]
    simp
  | cons f c =>
    have gz' : Gz s' (plug (f :: c) (nd n i l r)) := by rw [← ht]; exact gz
    have hsz : (plug (f :: c) (nd n i l r)).size ≤ L.length := by rw [← ht]; omega
    obtain ⟨d1, _, _⟩ := det_gz 0 (bts L.length + 2) L.length ok' gz' hsz (by omega) (Nat.le_refl _)
    have p := (pth_of (f :: c) (nd n i l r) gz'.hp gz'.up).1.1
    have ei : cellS s' (n : Int) 6 = (i : Int) := it_tree ok' hpl
    have ef : cellS s' (f.n : Int) 6 = (f.i : Int) := cell_nat (j := 6) ok' p.ln (by decide) p.it p.li
    have enb : nbS s' (n : Int) (cellS s' (n : Int) 0) = befF (hasS s') i f.i := by
      unfold nbS; rw [d1, ei, ef]; exact bef_nat hpl.1.2 p.li
    have ebel : belB s' t.root (n : Int) = true := by
      unfold belB
      have e1 : rootS s' t.root = t.root := root_any ok' gz.hp gz.up
      have e2 : t.root ≠ -1 := by
        cases t with
        | lf => simp [items] at him
        | nd a b x y => simp only [root]; omega
      rw [e1, d1]
      simp [e2]
    by_cases q : befF (hasS s') i f.i = true
    · refine Or.inr ⟨Nat.le_trans (plug_two c f n i l r) hsz, ebel, by rw [enb]; exact q, fun k => ?_, ?_⟩
      · exact (det_gz k (bts L.length + 2) L.length ok' gz' hsz (by omega) (Nat.le_refl _)).2.1
      · have key2 : ∀ k, mOk (2 * bts L.length + 1) (dS (bts L.length + 2) s' (n : Int) k) t.root (n : Int) ∧ ∃ t', (meldS (2 * bts L.length + 1) (dS (bts L.length + 2) s' (n : Int) k) t.root (n : Int)).1 = t'.root ∧ Inv (meldS (2 * bts L.length + 1) (dS (bts L.length + 2) s' (n : Int) k) t.root (n : Int)).2 t' u (l1 ++ l2 ++ [(i, key, ser)]) M := fun k => by
          obtain ⟨_, _, smd, z1, z2, fr⟩ := det_gz k (bts L.length + 2) L.length ok' gz' hsz (by omega) (Nat.le_refl _)
          generalize dS (bts L.length + 2) s' (n : Int) k = sd at *
          have er : t.root = (fix (f :: c) lf).root := by rw [fix_root c f (nd n i l r) lf, ← ht]
          have okd := smd.ok
          have f78 : ∀ a, hasS sd a 7 = hasS s' a 7 ∧ hasS sd a 8 = hasS s' a 8 := fun a => ⟨fr a 7 (Or.inr (by decide)), fr a 8 (Or.inr (by decide))⟩
          have g1 : Gd sd (nd n i l r) := z1.gd (Od.mono _ (fun a _ b _ => befF_like (f78 a).1 (f78 a).2 (f78 b).1 (f78 b).2) odn)
          have g2 : Gd sd (fix (f :: c) lf) := z2.gd (by
            have o1 : (fix (f :: c) lf).Od (befF (hasS s)) := fix_od (f :: c) (nd n i l r) lf od0 trivial (fun j hj => by simp [items] at hj)
            refine Od.mono _ (fun a ha b hb => ?_) o1
            have ha' : a ∈ pitems (f :: c) := by have := (fix_items (f :: c) lf).mem_iff.1 ha; simpa [items] using this
            have hb' : b ∈ pitems (f :: c) := by have := (fix_items (f :: c) lf).mem_iff.1 hb; simpa [items] using this
            rw [hpi a ha' b hb']
            exact befF_like (f78 a).1 (f78 a).2 (f78 b).1 (f78 b).2)
          have hcel := plug_cells (f :: c) (nd n i l r)
          rw [← ht] at hcel
          have hnd := hcel.nodup_iff.1 h.a.gd.nd
          rw [List.nodup_append] at hnd
          have hfx : ∀ a, a ∈ (fix (f :: c) lf).cells ↔ a ∈ pcells (f :: c) := fun a => by rw [(fix_cells (f :: c) lf).mem_iff]; simp [cells]
          have hu' : Hh sd u M := hub.keep fun a ha => ⟨by rw [smd.ls], fun j => fr a j (Or.inl (fun y => h.dj a (by rw [ht]; exact y) ha))⟩
          have r1 : (fix (f :: c) lf).rank ≤ bts L.length := by
            have a1 := rank_bts g2.lft
            have a2 : (fix (f :: c) lf).size ≤ L.length := by
              have b1 : (fix (f :: c) lf).size ≤ t.size := by
                rw [← size_items, ← size_items, (fix_items (f :: c) lf).length_eq, ht, (plug_items (f :: c) (nd n i l r)).length_eq]
                simp [items]
              omega
            have := bts_mono a2
            omega
          have s1 : (nd n i l r).size ≤ L.length := Nat.le_trans (plug_size (f :: c) (nd n i l r)).1 hsz
          have r2 : (nd n i l r).rank ≤ bts L.length := by
            have a1 := rank_bts g1.lft
            have := bts_mono s1
            omega
          have s2 : (fix (f :: c) lf).size ≤ L.length := by
            rw [← size_items, (fix_items (f :: c) lf).length_eq]
            have := (plug_items (f :: c) (nd n i l r)).length_eq
            rw [size_items] at this
            simp [items] at this ⊢
            omega
          rw [er]
          obtain ⟨m1, m2, m3, m4, m5, m6, m7, m8⟩ := meld_two (s := sd) (a := fix (f :: c) lf) (b := nd n i l r) (k := 2 * bts L.length + 1) okd g2 g1 hu'
            (fun a ha y => hnd.2.2 a ((hfx a).1 ha) a y rfl) (fun a ha y => h.dj a (hcel.mem_iff.2 (List.mem_append.2 (Or.inl ((hfx a).1 ha)))) y) (fun a ha y => h.dj a (hcel.mem_iff.2 (List.mem_append.2 (Or.inr ha))) y) (by omega) (by omega)
          rw [show (nd n i l r).root = (n : Int) from rfl] at m1 m2 m3 m4 m7 m8
          refine ⟨m1, _, m2, m7.ok, ⟨m3, ?_, ?_⟩, m4, ?_, ?_⟩
          · refine hpm.trans (List.Perm.trans ?_ m5.symm)
            rw [ht]
            refine (plug_items (f :: c) (nd n i l r)).trans (List.Perm.append_right _ ?_)
            have := (fix_items (f :: c) lf).symm
            simpa [items] using this
          · intro y hy
            rw [m8 y.1 7 (Or.inr (by decide)), m8 y.1 8 (Or.inr (by decide)), (f78 y.1).1, (f78 y.1).2]
            exact hens y hy
          · intro a ha y
            have := m6.mem_iff.1 ha
            rw [List.mem_append] at this
            refine h.dj a (hcel.mem_iff.2 (List.mem_append.2 ?_)) y
            exact this.imp (hfx a).1 id
          · rw [cnt_sm okd m7, cnt_sm ok' smd]; exact hnum
        exact ⟨fun k => (key2 k).1, fun k => (key2 k).2⟩
    · have q' : befF (hasS s') i f.i = false := by simpa using q
      refine Or.inl ⟨Or.inr (by rw [enb]; exact q'), stay ?_⟩
      rw [ht]
      refine plug_od2 (befF_tot _) (f :: c) (nd n i l r) od0 odn hpi ?_
      intro g c' hc j hj
      injection hc with h1 h2
      subst h1
      simp only [items, List.mem_cons] at hj
      rcases hj with rfl | hj
      · exact q'
      · exact (befF_tot _).le f.i i j q' (odn.1 j hj)
end
end Go.Proofs.YtnkpopeahmjodaaGreat
