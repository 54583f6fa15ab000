/- Leftist trees in an arena: what lean and meld do. -/
import Derived.Test.YtnkpopeahmjodaaGreatTt
namespace Go.Proofs.YtnkpopeahmjodaaGreat
open Go.ChangeShapes Go.WideShapes Go.ChangeAt Go.RowKit
open Tr

/-- is the cell taken? -/
def LS (s : St) (c : Nat) : Bool := liveS s (c : Int)
section
variable {s : St} {c : Nat}
theorem ls_pl (h : LS s c = true) : ∃ x, s.pl[c]? = some (x, true) := by
  have := (live_iff.1 h).2
  simpa using this
theorem ls_lt (h : LS s c = true) : c < s.pl.length := by
  obtain ⟨x, hx⟩ := ls_pl h
  exact (List.getElem?_eq_some_iff.1 hx).1
theorem ls_most (ok : Ok s) (h : LS s c = true) : c < s.most := Nat.lt_of_lt_of_le (ls_lt h) ok.fits
theorem ls_cl (ok : Ok s) (h : LS s c = true) : Cl (c : Int) := ⟨by omega, by have := ls_most ok h; have := ok.top; omega⟩
theorem may_nat {j : Nat} (h : LS s c = true) (hj : j ≤ 9) : mayS s (c : Int) (j : Int) = true := by
  unfold mayS
  rw [show liveS s (c : Int) = true from h]
  simp; omega
theorem get_nat {j : Nat} (h : LS s c = true) (hj : j ≤ 9) : getS s (c : Int) (j : Int) = hasS s c j := by
  rw [get_yes (may_nat h hj)]; simp
theorem cell_nat {j d : Nat} (ok : Ok s) (h : LS s c = true) (hj : j ≤ 9) (he : hasS s c j = (d : Int)) (hd : LS s d = true) : cellS s (c : Int) (j : Int) = (d : Int) := by
  rw [cell_yes (by rw [get_nat h hj, he]; have := ls_most ok hd; omega), get_nat h hj, he]
theorem cell_neg {j : Nat} (h : LS s c = true) (hj : j ≤ 9) (he : hasS s c j = -1) : cellS s (c : Int) (j : Int) = -1 := cell_no (by rw [get_nat h hj, he]; omega)
theorem may_none {f : Int} : mayS s (-1) f = false := may_not (live_neg (by decide))
theorem get_none {f : Int} : getS s (-1) f = -1 := get_no may_none
theorem cell_none {f : Int} : cellS s (-1) f = -1 := cell_no (by rw [get_none]; omega)
theorem set_none {f v : Int} : setS s (-1) f v = tk s 1 := set_no may_none
theorem set_ls {f v : Int} {x : Int} : LS (setS s x f v) = LS s := by
  funext a
  unfold LS setS
  split
  · rename_i hm
    obtain ⟨h0, y, hy⟩ := live_iff.1 (may_yes hm).1
    unfold liveS
    simp only
    by_cases e : x.toNat = a
    · subst e
      simp only [Int.toNat_natCast]
      rw [List.getElem?_set_self (List.getElem?_eq_some_iff.1 hy).1, hy]
    · simp only [Int.toNat_natCast]
      rw [List.getElem?_set_ne e]
  · rfl
theorem set_has {j : Nat} {v : Int} (h : LS s c = true) (hj : j ≤ 9) : hasS (setS s (c : Int) (j : Int) v) = put (hasS s) c j v := by
  obtain ⟨x, hx⟩ := ls_pl h
  rw [set_yes (may_nat h hj) (by simpa using hx)]
  funext a k
  unfold hasS
  simp only [Int.toNat_natCast]
  by_cases e : a = c
  · subst e
    rw [List.getElem?_set_self (ls_lt h)]
    simp [put, hx]
  · rw [List.getElem?_set_ne (fun q => e q.symm)]
    rw [put_ne e]
end

/-- the same cells are taken, the same are free, in their order -/
structure Sm (s s' : St) : Prop where
  ok : Ok s'
  most : s'.most = s.most
  back : s'.back = s.back
  len : s'.pl.length = s.pl.length
  ls : LS s' = LS s
section
variable {s s' s'' : St}
theorem Sm.refl (ok : Ok s) : Sm s s := ⟨ok, rfl, rfl, rfl, rfl⟩
theorem Sm.trans (h : Sm s s') (k : Sm s' s'') : Sm s s'' := ⟨k.ok, k.most.trans h.most, k.back.trans h.back, k.len.trans h.len, k.ls.trans h.ls⟩
theorem Sm.tk (ok : Ok s) (k : Nat) : Sm s (tk s k) := ⟨⟨ok.top, ok.fits, ok.free, ok.once, ok.count⟩, rfl, rfl, rfl, rfl⟩
theorem Sm.set (ok : Ok s) (c f v : Int) : Sm s (setS s c f v) := ⟨ok.set, set_most _ _ _ _, by unfold setS; split <;> rfl, by unfold setS; split <;> simp [tick], set_ls⟩
theorem Sm.lk (ok : Ok s) (n f c : Int) : Sm s (lkS s n f c) := (Sm.set ok n f c).trans (Sm.set ok.set c 0 n)
theorem Sm.le (ok : Ok s) (n c d low : Int) : Sm s (leS s n c d low) := by
  have h1 := Sm.tk ok 2
  have h2 := h1.trans (Sm.lk h1.ok n 2 c)
  have h3 := h2.trans (Sm.lk h2.ok n 3 d)
  have h4 := h3.trans (Sm.tk h3.ok 1)
  exact h4.trans (Sm.set h4.ok n 4 (low + 1))
theorem Sm.lean (ok : Ok s) (n c d : Int) : Sm s (leanS s n c d) := by unfold leanS; split <;> exact Sm.le ok _ _ _ _
theorem Sm.meld : ∀ (k : Nat) {s : St} (_ : Ok s) (r t : Int), Sm s (meldS k s r t).2
  | 0, s, ok, r, t => Sm.refl ok
  | k + 1, s, ok, r, t => by
    unfold meldS
    split
    · exact Sm.refl ok
    · split
      · exact Sm.refl ok
      · have h1 := Sm.tk ok 10
        have h2 := h1.trans (Sm.meld k h1.ok (rcS s (topS s r t)) (othS s r t))
        exact h2.trans (Sm.lean h2.ok _ _ _)
end

/-- what link does -/
def lkF (f : Nat → Nat → Int) (n k : Nat) (x : Int) : Nat → Nat → Int := fun a j => if j = 0 ∧ x = (a : Int) then (n : Int) else if a = n ∧ j = k then x else f a j
theorem lk_has {s : St} {n k : Nat} {x : Int} (hn : LS s n = true) (hk : k ≤ 9) (hx : x = -1 ∨ ∃ c : Nat, x = (c : Int) ∧ LS s c = true) : hasS (lkS s (n : Int) (k : Int) x) = lkF (hasS s) n k x := by
  unfold lkS
  rcases hx with rfl | ⟨m, rfl, hm⟩
  · rw [set_none]
    show hasS (setS s (n : Int) (k : Int) (-1)) = _
    rw [set_has hn hk]
    funext a j
    unfold lkF
    rw [if_neg (by omega)]
    by_cases e : a = n
    · subst e
      by_cases q : j = k
      · subst q; rw [put_at]; simp
      · rw [put_nj q]; simp [q]
    · rw [put_ne e]; simp [e]
  · have e1 := set_has (v := (m : Int)) hn hk
    have h2 : LS (setS s (n : Int) (k : Int) (m : Int)) m = true := by rw [set_ls]; exact hm
    have e2 := set_has (j := 0) (v := (n : Int)) h2 (by decide)
    rw [e1] at e2
    refine e2.trans ?_
    funext a j
    unfold lkF
    by_cases e : j = 0 ∧ (m : Int) = (a : Int)
    · rw [if_pos e]
      obtain ⟨rfl, e⟩ := e
      have : m = a := by omega
      subst this
      exact put_at
    · rw [if_neg e, put_or (by by_cases q : a = m; · right; intro z; exact e ⟨z, by omega⟩
                               · left; exact q)]
      by_cases q : a = n
      · subst q
        by_cases z : j = k
        · subst z; rw [put_at]; simp
        · rw [put_nj z]; simp [z]
      · rw [put_ne q]; simp [q]

section
variable {s : St} {n i : Nat} {l r : Tr}
theorem root_live {L : Nat → Bool} {f : Nat → Nat → Int} {t : Tr} (h : Hp L f t) : ∀ c : Nat, t.root = (c : Int) → L c = true := fun c hc => h.live c (root_mem hc)
theorem root_or {L : Nat → Bool} {f : Nat → Nat → Int} {t : Tr} (h : Hp L f t) : t.root = -1 ∨ ∃ c : Nat, t.root = (c : Int) ∧ L c = true := by
  cases t with
  | lf => exact Or.inl rfl
  | nd n i l r => exact Or.inr ⟨n, rfl, h.1.1⟩
theorem ch_tree {k : Nat} {t : Tr} (ok : Ok s) (hn : LS s n = true) (hk : k ≤ 9) (he : hasS s n k = t.root) (ht : Hp (LS s) (hasS s) t) (hu : upIs (hasS s) t (n : Int)) : chS s (n : Int) (k : Int) = t.root := by
  unfold chS
  cases t with
  | lf => rw [cell_neg hn hk he]; split <;> rfl
  | nd m j a b =>
    have hm : LS s m = true := root_live ht m rfl
    have e0 : cellS s (m : Int) 0 = (n : Int) := cell_nat (j := 0) ok hm (by decide) hu hn
    rw [cell_nat ok hn hk he hm, if_pos e0]
    rfl
theorem lc_tree (ok : Ok s) (h : Hp (LS s) (hasS s) (nd n i l r)) : lcS s (n : Int) = l.root := by
  obtain ⟨⟨a1, a2⟩, ⟨b1, b2, b3, b4, b5, b6⟩, ⟨u1, u2⟩, hl, hr⟩ := h
  exact ch_tree (k := 2) ok a1 (by decide) b2 hl u1
theorem rc_tree (ok : Ok s) (h : Hp (LS s) (hasS s) (nd n i l r)) (hd : (nd n i l r).cells.Nodup) : rcS s (n : Int) = r.root := by
  obtain ⟨⟨a1, a2⟩, ⟨b1, b2, b3, b4, b5, b6⟩, ⟨u1, u2⟩, hl, hr⟩ := h
  have e1 : chS s (n : Int) 2 = l.root := ch_tree (k := 2) ok a1 (by decide) b2 hl u1
  have e2 : chS s (n : Int) 3 = r.root := ch_tree (k := 3) ok a1 (by decide) b3 hr u2
  unfold rcS
  rw [e1, e2]
  split
  · rename_i q
    cases r with
    | lf => rfl
    | nd m j a b =>
      exfalso
      simp only [cells, List.nodup_cons, List.nodup_append] at hd
      exact hd.2.2.2.2 m (root_mem q) m (by simp) rfl
  · rfl
theorem rk_tree {t : Tr} (h : Hp (LS s) (hasS s) t) : rkS s t.root = (t.rank : Int) := by
  unfold rkS
  cases t with
  | lf => simp only [root]; rw [get_none]; rfl
  | nd n i l r =>
    obtain ⟨⟨a1, a2⟩, ⟨b1, b2, b3, b4, b5, b6⟩, _⟩ := h
    have e : getS s (n : Int) 4 = hasS s n 4 := get_nat (j := 4) a1 (by decide)
    simp only [root, rank]
    rw [e, b4]
    omega
theorem it_tree (ok : Ok s) (h : Hp (LS s) (hasS s) (nd n i l r)) : cellS s (n : Int) 6 = (i : Int) := by
  obtain ⟨⟨a1, a2⟩, ⟨b1, b2, b3, b4, b5, b6⟩, _⟩ := h
  exact cell_nat (j := 6) ok a1 (by decide) b5 a2
theorem no_tree (ok : Ok s) (h : Hp (LS s) (hasS s) (nd n i l r)) : cellS s (i : Int) 9 = (n : Int) := by
  obtain ⟨⟨a1, a2⟩, ⟨b1, b2, b3, b4, b5, b6⟩, _⟩ := h
  exact cell_nat (j := 9) ok a2 (by decide) b6 a1
theorem bef_nat {c d : Nat} (hc : LS s c = true) (hd : LS s d = true) : befS s (c : Int) (d : Int) = befF (hasS s) c d := by
  have e1 : getS s (c : Int) 7 = hasS s c 7 := get_nat (j := 7) hc (by decide)
  have e2 : getS s (c : Int) 8 = hasS s c 8 := get_nat (j := 8) hc (by decide)
  have e3 : getS s (d : Int) 7 = hasS s d 7 := get_nat (j := 7) hd (by decide)
  have e4 : getS s (d : Int) 8 = hasS s d 8 := get_nat (j := 8) hd (by decide)
  unfold befS befF
  rw [e1, e2, e3, e4]
  simp
theorem nb_tree {m j : Nat} {l' r' : Tr} (ok : Ok s) (h : Hp (LS s) (hasS s) (nd n i l r)) (h' : Hp (LS s) (hasS s) (nd m j l' r')) : nbS s (n : Int) (m : Int) = befF (hasS s) i j := by
  unfold nbS
  rw [it_tree ok h, it_tree ok h', bef_nat h.1.2 h'.1.2]
theorem root_tree (ok : Ok s) (h : Hp (LS s) (hasS s) (nd n i l r)) (hu : hasS s n 0 = -1) : rootS s (n : Int) = (n : Int) := by
  unfold rootS
  rw [if_pos ⟨cell_neg (j := 0) h.1.1 (by decide) hu, by rw [it_tree ok h, no_tree ok h]⟩]
theorem root_none : rootS s (-1) = -1 := by unfold rootS; split <;> rfl
/-- a root's Up is none, so it is one -/
theorem root_any {t : Tr} (ok : Ok s) (h : Hp (LS s) (hasS s) t) (hu : upIs (hasS s) t (-1)) : rootS s t.root = t.root := by
  cases t with
  | lf => exact root_none
  | nd n i l r => exact root_tree ok h hu
end

/-- what lean does, its children in their order -/
theorem le_tree {s : St} {n i : Nat} {c d : Tr} (ok : Ok s) (hc : Hp (LS s) (hasS s) c) (hd : Hp (LS s) (hasS s) d) (hnd : (n :: i :: (c.cells ++ d.cells)).Nodup) (hn : LS s n = true) (hi : LS s i = true)
    (h1 : hasS s n 1 = -1) (h6 : hasS s n 6 = (i : Int)) (h9 : hasS s i 9 = (n : Int)) :
    Hp (LS s) (hasS (leS s (n : Int) c.root d.root (d.rank : Int))) (nd n i c d) ∧
    (∀ a j, (a ≠ n ∨ (j ≠ 2 ∧ j ≠ 3 ∧ j ≠ 4)) → (j ≠ 0 ∨ (c.root ≠ (a : Int) ∧ d.root ≠ (a : Int))) → hasS (leS s (n : Int) c.root d.root (d.rank : Int)) a j = hasS s a j) ∧
    wasS s (n : Int) c.root d.root = hasS s n 4 := by
  have g1 : hasS (lkS (tk s 2) (n : Int) 2 c.root) = lkF (hasS s) n 2 c.root := lk_has (s := tk s 2) (k := 2) hn (by decide) (root_or hc)
  have l1 : LS (lkS (tk s 2) (n : Int) 2 c.root) = LS s := (Sm.lk (s := tk s 2) (Sm.tk ok 2).ok _ _ _).ls
  have g2 : hasS (lkS (lkS (tk s 2) (n : Int) 2 c.root) (n : Int) 3 d.root) = lkF (lkF (hasS s) n 2 c.root) n 3 d.root := by
    rw [← g1]
    exact lk_has (k := 3) (by rw [l1]; exact hn) (by decide) (by rw [l1]; exact root_or hd)
  have l2 : LS (lkS (lkS (tk s 2) (n : Int) 2 c.root) (n : Int) 3 d.root) = LS s := ((Sm.lk (s := tk s 2) (Sm.tk ok 2).ok _ _ _).trans (Sm.lk (Sm.lk (s := tk s 2) (Sm.tk ok 2).ok _ _ _).ok _ _ _)).ls
  have g3 : hasS (leS s (n : Int) c.root d.root (d.rank : Int)) = put (lkF (lkF (hasS s) n 2 c.root) n 3 d.root) n 4 ((d.rank : Int) + 1) := by
    unfold leS
    rw [← g2]
    exact set_has (s := tk (lkS (lkS (tk s 2) (n : Int) 2 c.root) (n : Int) 3 d.root) 1) (j := 4) (by show LS (lkS (lkS (tk s 2) (n : Int) 2 c.root) (n : Int) 3 d.root) n = true; rw [l2]; exact hn) (by decide)
  have hval : ∀ a j, hasS (leS s (n : Int) c.root d.root (d.rank : Int)) a j = if a = n ∧ j = 4 then (d.rank : Int) + 1 else if j = 0 ∧ d.root = (a : Int) then (n : Int) else if a = n ∧ j = 3 then d.root else if j = 0 ∧ c.root = (a : Int) then (n : Int) else if a = n ∧ j = 2 then c.root else hasS s a j := by
    intro a j
    rw [g3]
    by_cases e : a = n ∧ j = 4
    · rw [if_pos e, e.1, e.2, put_at]
    · rw [if_neg e, put_or (by by_cases q : a = n; · right; exact fun z => e ⟨q, z⟩
                               · left; exact q)]
      unfold lkF
      rfl
  simp only [List.nodup_cons, List.mem_cons, List.mem_append, List.nodup_append, not_or] at hnd
  obtain ⟨⟨n1, n2, n3⟩, ⟨n4, n5⟩, n6, n7, n8⟩ := hnd
  have rc : ∀ a : Nat, c.root = (a : Int) → a ≠ n ∧ a ≠ i := fun a ha => ⟨fun e => n2 (e ▸ root_mem ha), fun e => n4 (e ▸ root_mem ha)⟩
  have rd : ∀ a : Nat, d.root = (a : Int) → a ≠ n ∧ a ≠ i := fun a ha => ⟨fun e => n3 (e ▸ root_mem ha), fun e => n5 (e ▸ root_mem ha)⟩
  have hframe : ∀ a j, (a ≠ n ∨ (j ≠ 2 ∧ j ≠ 3 ∧ j ≠ 4)) → (j ≠ 0 ∨ (c.root ≠ (a : Int) ∧ d.root ≠ (a : Int))) → hasS (leS s (n : Int) c.root d.root (d.rank : Int)) a j = hasS s a j := by
    intro a j p q
    rw [hval, if_neg (by omega), if_neg (by rintro ⟨z1, z2⟩; rcases q with q | q; exact q z1; exact q.2 z2), if_neg (by omega), if_neg (by rintro ⟨z1, z2⟩; rcases q with q | q; exact q z1; exact q.1 z2), if_neg (by omega)]
  refine ⟨⟨⟨hn, hi⟩, ⟨?_, ?_, ?_, ?_, ?_, ?_⟩, ⟨?_, ?_⟩, ?_, ?_⟩, hframe, ?_⟩
  · rw [hframe n 1 (Or.inr ⟨by decide, by decide, by decide⟩) (Or.inl (by decide))]; exact h1
  · rw [hval, if_neg (by omega), if_neg (by omega), if_neg (by omega), if_neg (by omega), if_pos ⟨rfl, rfl⟩]
  · rw [hval, if_neg (by omega), if_neg (by omega), if_pos ⟨rfl, rfl⟩]
  · rw [hval, if_pos ⟨rfl, rfl⟩]; omega
  · rw [hframe n 6 (Or.inr ⟨by decide, by decide, by decide⟩) (Or.inl (by decide))]; exact h6
  · rw [hframe i 9 (Or.inr ⟨by decide, by decide, by decide⟩) (Or.inl (by decide))]; exact h9
  · cases c with
    | lf => trivial
    | nd m j a b =>
      show hasS (leS s (n : Int) (nd m j a b).root d.root (d.rank : Int)) m 0 = (n : Int)
      rw [hval, if_neg (by omega), if_neg (by rintro ⟨_, z⟩; exact n8 m (by simp [cells]) m (root_mem z) rfl), if_neg (by omega), if_pos ⟨rfl, rfl⟩]
  · cases d with
    | lf => trivial
    | nd m j a b =>
      show hasS (leS s (n : Int) c.root (nd m j a b).root ((nd m j a b).rank : Int)) m 0 = (n : Int)
      rw [hval, if_neg (by omega), if_pos ⟨rfl, rfl⟩]
  · refine hc.like n6 (fun _ _ => rfl) fun a ha j q => hframe a j (Or.inl (fun e => n2 (e ▸ ha))) ?_
    by_cases z : j = 0
    · exact Or.inr ⟨q z, fun y => n8 a ha a (root_mem y) rfl⟩
    · exact Or.inl z
  · refine hd.like n7 (fun _ _ => rfl) fun a ha j q => hframe a j (Or.inl (fun e => n3 (e ▸ ha))) ?_
    by_cases z : j = 0
    · exact Or.inr ⟨fun y => n8 a (root_mem y) a ha rfl, q z⟩
    · exact Or.inl z
  · have hn2 : LS (lkS (lkS (tk s 2) (n : Int) 2 c.root) (n : Int) 3 d.root) n = true := by rw [l2]; exact hn
    have e : getS (lkS (lkS (tk s 2) (n : Int) 2 c.root) (n : Int) 3 d.root) (n : Int) 4 = hasS (lkS (lkS (tk s 2) (n : Int) 2 c.root) (n : Int) 3 d.root) n 4 := get_nat (j := 4) hn2 (by decide)
    unfold wasS
    rw [e, g2]
    unfold lkF
    rw [if_neg (by omega), if_neg (by omega), if_neg (by omega), if_neg (by omega)]

theorem mk_rank {n i : Nat} {c d : Tr} : (mk n i c d).rank = min c.rank d.rank + 1 := by unfold mk; split <;> simp only [rank] <;> omega

/-- what lean does -/
theorem lean_tree {s : St} {n i : Nat} {c d : Tr} (ok : Ok s) (hc : Hp (LS s) (hasS s) c) (hd : Hp (LS s) (hasS s) d) (hnd : (n :: i :: (c.cells ++ d.cells)).Nodup) (hn : LS s n = true) (hi : LS s i = true)
    (h1 : hasS s n 1 = -1) (h6 : hasS s n 6 = (i : Int)) (h9 : hasS s i 9 = (n : Int)) :
    Hp (LS s) (hasS (leanS s (n : Int) c.root d.root)) (mk n i c d) ∧
    (∀ a j, (a ≠ n ∨ (j ≠ 2 ∧ j ≠ 3 ∧ j ≠ 4)) → (j ≠ 0 ∨ (c.root ≠ (a : Int) ∧ d.root ≠ (a : Int))) → hasS (leanS s (n : Int) c.root d.root) a j = hasS s a j) ∧
    leanB s (n : Int) c.root d.root = (hasS s n 4 != (((mk n i c d).rank : Nat) : Int)) := by
  have r1 := rk_tree hc
  have r2 := rk_tree hd
  rw [mk_rank]
  unfold leanS leanB mk
  rw [r1, r2]
  by_cases q : c.rank < d.rank
  · rw [if_pos q, if_pos (by omega), if_pos (by omega)]
    have hp : (n :: i :: (d.cells ++ c.cells)).Nodup := (List.Perm.nodup_iff (.cons n (.cons i List.perm_append_comm))).1 hnd
    obtain ⟨a, b, e⟩ := le_tree ok hd hc hp hn hi h1 h6 h9
    refine ⟨a, fun x j p q => b x j p (q.imp id fun z => z.symm), ?_⟩
    rw [e]
    congr 1
    omega
  · rw [if_neg q, if_neg (by omega), if_neg (by omega)]
    obtain ⟨a, b, e⟩ := le_tree ok hc hd hnd hn hi h1 h6 h9
    refine ⟨a, b, ?_⟩
    rw [e]
    congr 1
    omega
end Go.Proofs.YtnkpopeahmjodaaGreat
