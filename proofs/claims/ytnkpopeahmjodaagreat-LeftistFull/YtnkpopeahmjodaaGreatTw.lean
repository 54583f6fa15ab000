/- Heaps: trees with shape and order in an arena; Meld, remove, Push as they turn them. -/
import Derived.Test.YtnkpopeahmjodaaGreatTv
namespace Go.Proofs.YtnkpopeahmjodaaGreat
open Go.ChangeShapes Go.WideShapes Go.ChangeAt Go.RowKit
open Tr

/-- a heap -/
structure Gd (s : St) (t : Tr) : Prop where
  hp : Hp (LS s) (hasS s) t
  nd : t.cells.Nodup
  up : upIs (hasS s) t (-1)
  lft : t.Lft
  od : t.Od (befF (hasS s))

theorem items_sub {t : Tr} {c : Nat} (h : c ∈ t.items) : c ∈ t.cells := mem_cells.2 (Or.inr h)
theorem befF_like {f f' : Nat → Nat → Int} {a b : Nat} (h1 : f' a 7 = f a 7) (h2 : f' a 8 = f a 8) (h3 : f' b 7 = f b 7) (h4 : f' b 8 = f b 8) : befF f a b = befF f' a b := by
  unfold befF; rw [h1, h2, h3, h4]

section
variable {s s' : St} {t a b : Tr}
theorem Gd.lf (s : St) : Gd s Tr.lf := ⟨trivial, .nil, trivial, trivial, trivial⟩
/-- cells that are left alone -/
theorem Gd.keep (h : Gd s t) (hf : ∀ c ∈ t.cells, LS s' c = LS s c ∧ ∀ j, hasS s' c j = hasS s c j) : Gd s' t :=
  ⟨h.hp.like h.nd (fun c hc => (hf c hc).1) (fun c hc j _ => (hf c hc).2 j), h.nd, h.up.like (fun c hc => (hf c hc).2 0), h.lft,
   Od.mono t (fun a ha b hb => befF_like ((hf a (items_sub ha)).2 7) ((hf a (items_sub ha)).2 8) ((hf b (items_sub hb)).2 7) ((hf b (items_sub hb)).2 8)) h.od⟩
theorem ml_root {lt : Nat → Nat → Bool} : ∀ (k : Nat) (a b : Tr), (ml lt k a b).root = a.root ∨ (ml lt k a b).root = b.root
  | 0, a, b => Or.inl rfl
  | k + 1, a, Tr.lf => Or.inl (by cases a <;> rfl)
  | k + 1, Tr.lf, Tr.nd n i l r => Or.inr rfl
  | k + 1, Tr.nd n i l r, Tr.nd m j l' r' => by
    unfold ml
    split
    · exact Or.inr (by rw [mk_root]; rfl)
    · exact Or.inl (by rw [mk_root]; rfl)
theorem up_root {f : Nat → Nat → Int} {t : Tr} {u : Int} : upIs f t u ↔ ∀ c : Nat, t.root = (c : Int) → f c 0 = u := by
  cases t with
  | lf => exact ⟨fun _ c h => by simp only [root] at h; omega, fun _ => trivial⟩
  | nd n i l r => exact ⟨fun h c hc => by simp only [root] at hc; have : n = c := by omega
                                          subst this; exact h, fun h => h n rfl⟩
theorem gd_meld {k : Nat} (ok : Ok s) (ha : Gd s a) (hb : Gd s b) (hn : (a.cells ++ b.cells).Nodup) (hk : a.rank + b.rank < k) (hz : a.size + b.size < 1000000) :
    Mld k s a b ∧ Gd (meldS k s a.root b.root).2 (ml (befF (hasS s)) k a b) := by
  have M := meld_tree k ok a b ha.hp hb.hp hn hk hz
  refine ⟨M, ?_, ?_, ?_, ml_lft k a b ha.lft hb.lft, ?_⟩
  · rw [(Sm.meld k ok a.root b.root).ls]; exact M.hp
  · exact (ml_cells k a b hk).nodup_iff.2 hn
  · rw [up_root]
    intro c hc
    rw [M.up c hc]
    rcases ml_root (lt := befF (hasS s)) k a b with q | q
    · exact up_root.1 ha.up c (q ▸ hc)
    · exact up_root.1 hb.up c (q ▸ hc)
  · refine Od.mono _ (fun x _ y _ => ?_) (ml_od (befF_tot _) k a b hk ha.od hb.od)
    exact befF_like (M.rest x 7 (Or.inr (by decide))) (M.rest x 8 (Or.inr (by decide))) (M.rest y 7 (Or.inr (by decide))) (M.rest y 8 (Or.inr (by decide)))
end

/-- what a set of an Up does, also of none -/
theorem set_up {s : St} {x : Int} {v : Int} (hx : x = -1 ∨ ∃ c : Nat, x = (c : Int) ∧ LS s c = true) : hasS (setS s x 0 v) = fun (a j : Nat) => if j = 0 ∧ x = (a : Int) then v else hasS s a j := by
  rcases hx with rfl | ⟨c, rfl, hc⟩
  · rw [set_none]
    funext a j
    rw [if_neg (by omega)]
    rfl
  · have e : hasS (setS s (c : Int) 0 v) = put (hasS s) c 0 v := set_has (j := 0) hc (by decide)
    rw [e]
    funext a j
    by_cases q : j = 0 ∧ (c : Int) = (a : Int)
    · rw [if_pos q]
      obtain ⟨rfl, q⟩ := q
      have : c = a := by omega
      subst this
      exact put_at
    · rw [if_neg q, put_or (by by_cases z : a = c; · right; intro y; exact q ⟨y, by omega⟩
                               · left; exact z)]
section
variable {s : St} {n i : Nat} {l r : Tr}
theorem give_ls {c : Nat} (h : LS s c = true) : LS (giveS s (c : Int)) = fun a => if a = c then false else LS s a := by
  obtain ⟨x, hx⟩ := ls_pl h
  funext a
  unfold LS
  rw [give_yes (x := (x, true)) h (by simpa using hx)]
  unfold liveS
  simp only [Int.toNat_natCast]
  by_cases e : a = c
  · subst e
    rw [List.getElem?_set_self (ls_lt h)]
    simp
  · rw [List.getElem?_set_ne (fun q => e q.symm), if_neg e]
theorem give_has {c : Nat} (h : LS s c = true) : hasS (giveS s (c : Int)) = hasS s := by
  obtain ⟨x, hx⟩ := ls_pl h
  funext a
  rw [give_yes (x := (x, true)) h (by simpa using hx)]
  unfold hasS
  simp only [Int.toNat_natCast]
  by_cases e : a = c
  · subst e
    rw [List.getElem?_set_self (ls_lt h), hx]
  · rw [List.getElem?_set_ne (fun q => e q.symm)]
theorem give_back {c : Nat} (h : LS s c = true) : (giveS s (c : Int)).back = s.back ++ [c] ∧ (giveS s (c : Int)).pl.length = s.pl.length := by
  obtain ⟨x, hx⟩ := ls_pl h
  rw [give_yes (x := (x, true)) h (by simpa using hx)]
  simp

/-- remove, ahead of its meld -/
theorem rm_view (ok : Ok s) (h : Gd s (Tr.nd n i l r)) :
    Ok (rmS s (n : Int)) ∧ (rmS s (n : Int)).back = s.back ++ [n] ∧ (rmS s (n : Int)).pl.length = s.pl.length ∧
    (∀ c, LS (rmS s (n : Int)) c = if c = n then false else LS s c) ∧
    (∀ c j, hasS (rmS s (n : Int)) c j = if c = i ∧ j = 9 then -1 else if j = 0 ∧ (l.root = (c : Int) ∨ r.root = (c : Int)) then -1 else hasS s c j) := by
  have hl := lc_tree ok h.hp
  have hr := rc_tree ok h.hp h.nd
  obtain ⟨⟨a1, a2⟩, ⟨b1, b2, b3, b4, b5, b6⟩, _, h1, h2⟩ := h.hp
  have hnd := h.nd
  simp only [cells, List.nodup_cons, List.mem_cons, List.mem_append, List.nodup_append, not_or] at hnd
  obtain ⟨⟨n1, n2, n3⟩, _⟩ := hnd
  unfold rmS
  rw [hl, hr]
  have s1 := (Sm.tk ok 4).trans (Sm.set (Sm.tk ok 4).ok l.root 0 (-1))
  have s2 := s1.trans (Sm.set s1.ok r.root 0 (-1))
  have v1 : hasS (setS (tk s 4) l.root 0 (-1)) = fun (a j : Nat) => if j = 0 ∧ l.root = (a : Int) then -1 else hasS s a j := set_up (s := tk s 4) (root_or h1)
  have v2 : hasS (setS (setS (tk s 4) l.root 0 (-1)) r.root 0 (-1)) = fun (a j : Nat) => if j = 0 ∧ r.root = (a : Int) then -1 else if j = 0 ∧ l.root = (a : Int) then -1 else hasS s a j := by
    rw [set_up (by rw [s1.ls]; exact root_or h2), v1]
  generalize setS (setS (tk s 4) l.root 0 (-1)) r.root 0 (-1) = s3 at *
  unfold gbS
  have i6 : hasS s3 n 6 = (i : Int) := by rw [v2]; simp [b5]
  have c6 : cellS s3 (n : Int) 6 = (i : Int) := cell_nat (j := 6) s2.ok (by rw [s2.ls]; exact a1) (by decide) i6 (by rw [s2.ls]; exact a2)
  rw [c6]
  have s4 := s2.trans ((Sm.tk s2.ok 1).trans (Sm.set (Sm.tk s2.ok 1).ok (i : Int) 9 (-1)))
  have v4 : hasS (setS (tk s3 1) (i : Int) 9 (-1)) = put (hasS s3) i 9 (-1) := set_has (s := tk s3 1) (j := 9) (by show LS s3 i = true; rw [s2.ls]; exact a2) (by decide)
  generalize setS (tk s3 1) (i : Int) 9 (-1) = s5 at *
  have ln : LS s5 n = true := by rw [s4.ls]; exact a1
  obtain ⟨g1, g2⟩ := give_back ln
  refine ⟨s4.ok.give, by rw [g1, s4.back], by rw [g2, s4.len], fun c => ?_, fun c j => ?_⟩
  · rw [give_ls ln, s4.ls]
  · rw [give_has ln, v4]
    by_cases e : c = i ∧ j = 9
    · rw [if_pos e, e.1, e.2, put_at]
    · rw [if_neg e, put_or (by by_cases z : c = i; · right; exact fun y => e ⟨z, y⟩
                               · left; exact z), v2]
      by_cases q0 : j = 0
      · subst q0
        by_cases q1 : r.root = (c : Int) <;> by_cases q2 : l.root = (c : Int) <;> simp [q1, q2]
      · simp [q0]

/-- what was below a root that is given back: two heaps -/
theorem gd_rm (ok : Ok s) (h : Gd s (Tr.nd n i l r)) : Gd (rmS s (n : Int)) l ∧ Gd (rmS s (n : Int)) r := by
  obtain ⟨v1, v2, v3, v4, v5⟩ := rm_view ok h
  have hnd := h.nd
  simp only [cells, List.nodup_cons, List.mem_cons, List.mem_append, List.nodup_append, not_or] at hnd
  obtain ⟨⟨n1, n2, n3⟩, ⟨n4, n5⟩, n6, n7, n8⟩ := hnd
  obtain ⟨_, _, _, h1, h2⟩ := h.hp
  have key : ∀ t : Tr, Hp (LS s) (hasS s) t → t.cells.Nodup → t.Lft → t.Od (befF (hasS s)) → n ∉ t.cells → i ∉ t.cells → (∀ c, t.root = (c : Int) → l.root = (c : Int) ∨ r.root = (c : Int)) → (∀ c ∈ t.cells, t.root ≠ (c : Int) → l.root ≠ (c : Int) ∧ r.root ≠ (c : Int)) → Gd (rmS s (n : Int)) t := by
    intro t hh hd hlf ho hn hi hr hnr
    refine ⟨hh.like hd (fun c hc => ?_) (fun c hc j q => ?_), hd, ?_, hlf, ?_⟩
    · rw [v4, if_neg (fun e : c = n => hn (e ▸ hc))]
    · rw [v5, if_neg (fun e : c = i ∧ j = 9 => hi (e.1 ▸ hc)), if_neg]
      rintro ⟨q0, q1⟩
      have := hnr c hc (q q0)
      rcases q1 with q1 | q1
      · exact this.1 q1
      · exact this.2 q1
    · rw [up_root]
      intro c hc
      rw [v5, if_neg (by omega), if_pos ⟨rfl, hr c hc⟩]
    · refine Od.mono t (fun x hx y hy => ?_) ho
      have e : ∀ c ∈ t.items, ∀ j, j = 7 ∨ j = 8 → hasS (rmS s (n : Int)) c j = hasS s c j := fun c hc j hj => by
        rw [v5, if_neg (by omega), if_neg (by omega)]
      exact befF_like (e x hx 7 (Or.inl rfl)) (e x hx 8 (Or.inr rfl)) (e y hy 7 (Or.inl rfl)) (e y hy 8 (Or.inr rfl))
  refine ⟨key l h1 n6 h.lft.2.1 h.od.2.1 n2 n4 (fun c hc => Or.inl hc) (fun c hc q => ⟨q, fun z => n8 c hc c (root_mem z) rfl⟩), key r h2 n7 h.lft.2.2 h.od.2.2 n3 n5 (fun c hc => Or.inr hc) (fun c hc q => ⟨fun z => n8 c (root_mem z) c hc rfl, q⟩)⟩
end
end Go.Proofs.YtnkpopeahmjodaaGreat
