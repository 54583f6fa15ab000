/- Rings of cells as plain data: which cell is next to which, and the lists that go once round. -/
import Derived.Test.YticpldlckdckdaaHd
namespace Go.Proofs.Yticpldlckdckdaa
open Go.ChangeShapes Go.WideShapes Go.ChangeAt Go.RowKit

/-- what the cells have to their right and to their left -/
structure Vw (s : St) (n k : Nat) (R L : Nat → Int) : Prop where
  most : s.most = n
  len : s.pl.length = k
  bk : s.back = []
  cell : ∀ c, c < k → ∃ x, s.pl[c]? = some (x, true) ∧ x 3 = R c ∧ x 2 = L c

section
variable {s : St} {n k : Nat} {R L : Nat → Int}
theorem Vw.live (h : Vw s n k R L) {c : Nat} (hc : c < k) : liveS s c = true := by
  obtain ⟨x, hx, _⟩ := h.cell c hc
  exact live_iff.2 ⟨by omega, x, by simpa using hx⟩
theorem Vw.may (h : Vw s n k R L) {c : Nat} (hc : c < k) {f : Int} (h0 : 0 ≤ f) (h9 : f ≤ 9) : mayS s c f = true := by
  unfold mayS; rw [h.live hc]; simp [h0, h9]
theorem Vw.get (h : Vw s n k R L) {c : Nat} (hc : c < k) : getS s c 3 = R c ∧ getS s c 2 = L c := by
  obtain ⟨x, hx, h3, h2⟩ := h.cell c hc
  constructor
  · rw [get_yes (h.may hc (by decide) (by decide)), has_of (x := (x, true)) (by simpa using hx)]; exact h3
  · rw [get_yes (h.may hc (by decide) (by decide)), has_of (x := (x, true)) (by simpa using hx)]; exact h2
theorem Vw.right (h : Vw s n k R L) {c : Nat} (hc : c < k) {d : Int} (hd : R c = d) (h0 : 0 ≤ d) (hn : d < n) : cellS s c 3 = d := by
  rw [cell_yes (by rw [(h.get hc).1, hd, h.most]; exact ⟨h0, hn⟩), (h.get hc).1, hd]
theorem Vw.left (h : Vw s n k R L) {c : Nat} (hc : c < k) {d : Int} (hd : L c = d) (h0 : 0 ≤ d) (hn : d < n) : cellS s c 2 = d := by
  rw [cell_yes (by rw [(h.get hc).2, hd, h.most]; exact ⟨h0, hn⟩), (h.get hc).2, hd]
theorem Vw.right_no (h : Vw s n k R L) {c : Nat} (hc : c < k) (hd : R c = -1) : cellS s c 3 = -1 :=
  cell_no (by rw [(h.get hc).1, hd]; omega)
theorem Vw.left_no (h : Vw s n k R L) {c : Nat} (hc : c < k) (hd : L c = -1) : cellS s c 2 = -1 :=
  cell_no (by rw [(h.get hc).2, hd]; omega)
theorem Vw.tick (h : Vw s n k R L) : Vw (tick s) n k R L := ⟨h.most, h.len, h.bk, h.cell⟩
theorem Vw.set3 (h : Vw s n k R L) {c : Nat} (hc : c < k) (v : Int) : Vw (setS s c 3 v) n k (upd R c v) L ∧ (setS s c 3 v).steps = s.steps + 1 := by
  obtain ⟨x, hx, h3, h2⟩ := h.cell c hc
  have e := set_yes (v := v) (x := (x, true)) (h.may hc (f := 3) (by decide) (by decide)) (by simpa using hx)
  rw [e]
  refine ⟨⟨h.most, by simpa using h.len, h.bk, fun d hd => ?_⟩, rfl⟩
  by_cases q : d = c
  · subst q
    exact ⟨upd x 3 v, by simp [h.len, hd], by simp [upd], by simpa [upd] using h2⟩
  · obtain ⟨y, hy, y3, y2⟩ := h.cell d hd
    refine ⟨y, ?_, by simpa [upd, q] using y3, y2⟩
    simpa [List.getElem?_set_ne (show c ≠ d from fun e => q e.symm)] using hy
theorem Vw.set2 (h : Vw s n k R L) {c : Nat} (hc : c < k) (v : Int) : Vw (setS s c 2 v) n k R (upd L c v) ∧ (setS s c 2 v).steps = s.steps + 1 := by
  obtain ⟨x, hx, h3, h2⟩ := h.cell c hc
  have e := set_yes (v := v) (x := (x, true)) (h.may hc (f := 2) (by decide) (by decide)) (by simpa using hx)
  rw [e]
  refine ⟨⟨h.most, by simpa using h.len, h.bk, fun d hd => ?_⟩, rfl⟩
  by_cases q : d = c
  · subst q
    exact ⟨upd x 2 v, by simp [h.len, hd], by simpa [upd] using h3, by simp [upd]⟩
  · obtain ⟨y, hy, y3, y2⟩ := h.cell d hd
    refine ⟨y, ?_, y3, by simpa [upd, q] using y2⟩
    simpa [List.getElem?_set_ne (show c ≠ d from fun e => q e.symm)] using hy
theorem set_none {f v : Int} : setS s (-1) f v = tick s := set_no (may_not (live_neg (by omega)))
theorem Vw.start (n : Nat) (hn : n ≤ 65536) (R L : Nat → Int) : Vw (st0 (n : Int)) n 0 R L :=
  ⟨by show most0 _ = n; unfold most0; omega, rfl, rfl, fun c hc => by omega⟩
theorem Vw.take (h : Vw s n k R L) (hk : k < n) : nextS s = k ∧ Vw (takeS s) n (k + 1) (upd R k (-1)) (upd L k (-1)) ∧ (takeS s).steps = s.steps + 1 := by
  have e : ¬ s.pl.length = s.most := by rw [h.len, h.most]; omega
  have e1 : nextS s = k := by unfold nextS; rw [h.bk]; simp only [List.getLast?_nil]; rw [if_neg e, h.len]
  have e2 : takeS s = ⟨s.most, s.pl ++ [(fr, true)], s.back, s.steps + 1⟩ := by unfold takeS; rw [h.bk]; simp only [List.getLast?_nil, if_neg e]
  rw [e2]
  refine ⟨e1, ⟨h.most, by simp [h.len], h.bk, fun c hc => ?_⟩, rfl⟩
  by_cases q : c = k
  · subst q
    exact ⟨fr, by simp [← h.len], by simp [upd, fr], by simp [upd, fr]⟩
  · obtain ⟨y, hy, y3, y2⟩ := h.cell c (by omega)
    refine ⟨y, ?_, by simpa [upd, q] using y3, by simpa [upd, q] using y2⟩
    rw [List.getElem?_append_left (by rw [h.len]; omega)]; exact hy
end

/-- all of k cells are in rings: nx is the next one, pv the one ahead -/
structure Inv (k : Nat) (nx pv : Nat → Nat) : Prop where
  nlt : ∀ c, c < k → nx c < k
  plt : ∀ c, c < k → pv c < k
  pn : ∀ c, c < k → pv (nx c) = c
  np : ∀ c, c < k → nx (pv c) = c

/-- links that are turned: behind c comes d, behind the one ahead of d what was behind c -/
def swN (nx pv : Nat → Nat) (c d : Nat) : Nat → Nat := fun x => if x = pv d then nx c else if x = c then d else nx x
def swP (nx pv : Nat → Nat) (c d : Nat) : Nat → Nat := fun x => if x = nx c then pv d else if x = d then c else pv x

section
variable {k : Nat} {nx pv : Nat → Nat}
theorem Inv.inj (h : Inv k nx pv) {a b : Nat} (ha : a < k) (hb : b < k) (e : nx a = nx b) : a = b := by rw [← h.pn a ha, e, h.pn b hb]
theorem Inv.injp (h : Inv k nx pv) {a b : Nat} (ha : a < k) (hb : b < k) (e : pv a = pv b) : a = b := by rw [← h.np a ha, e, h.np b hb]
theorem Inv.sw (h : Inv k nx pv) {c d : Nat} (hc : c < k) (hd : d < k) : Inv k (swN nx pv c d) (swP nx pv c d) := by
  refine ⟨fun x hx => ?_, fun x hx => ?_, fun x hx => ?_, fun x hx => ?_⟩
  · unfold swN; split
    · exact h.nlt c hc
    · split
      · exact hd
      · exact h.nlt x hx
  · unfold swP; split
    · exact h.plt d hd
    · split
      · exact hc
      · exact h.plt x hx
  · by_cases q1 : x = pv d
    · subst q1; simp [swN, swP]
    · by_cases q2 : x = c
      · subst q2
        have e : ¬ d = nx x := fun e => q1 (by rw [e, h.pn x hx])
        simp [swN, swP, q1, e]
      · have e1 : ¬ nx x = nx c := fun e => q2 (h.inj hx hc e)
        have e2 : ¬ nx x = d := fun e => q1 (by rw [← e, h.pn x hx])
        simp [swN, swP, q1, q2, e1, e2, h.pn x hx]
  · by_cases q1 : x = nx c
    · subst q1; simp [swN, swP]
    · by_cases q2 : x = d
      · subst q2
        have e : ¬ c = pv x := fun e => q1 (by rw [e, h.np x hx])
        simp [swN, swP, q1, e]
      · have e1 : ¬ pv x = pv d := fun e => q2 (h.injp hx hd e)
        have e2 : ¬ pv x = c := fun e => q1 (by rw [← e, h.np x hx])
        simp [swN, swP, q1, q2, e1, e2, h.np x hx]
end

/-- each one's next is the next one of the list, the last one's is b -/
def Lnk (f : Nat → Nat) : List Nat → Nat → Prop
  | [], _ => True
  | x :: r, b => f x = r.head?.getD b ∧ Lnk f r b
/-- the list goes once round a ring -/
def Rnd (f : Nat → Nat) (l : List Nat) : Prop := l.Nodup ∧ Lnk f l (l.head?.getD 0)

section
variable {f g : Nat → Nat}
theorem Lnk.append : ∀ (l m : List Nat) (b : Nat), Lnk f (l ++ m) b ↔ Lnk f l (m.head?.getD b) ∧ Lnk f m b
  | [], m, b => by simp [Lnk]
  | [x], m, b => by simp [Lnk]
  | x :: y :: r, m, b => by
    have := Lnk.append (y :: r) m b
    simp only [List.cons_append] at this ⊢
    simp only [Lnk] at this ⊢
    simp only [List.head?_cons, Option.getD_some] at this ⊢
    rw [this]
    exact ⟨fun ⟨a, b, c⟩ => ⟨⟨a, b⟩, c⟩, fun ⟨⟨a, b⟩, c⟩ => ⟨a, b, c⟩⟩
theorem Lnk.congr : ∀ {l : List Nat} {b : Nat}, Lnk f l b → (∀ x ∈ l, g x = f x) → Lnk g l b
  | [], _, _, _ => trivial
  | x :: r, b, h, e => ⟨(e x (by simp)).trans h.1, Lnk.congr h.2 fun y hy => e y (by simp [hy])⟩
theorem Lnk.mem : ∀ {l : List Nat} {b x : Nat}, Lnk f l b → x ∈ l → f x ∈ l ∨ f x = b
  | [], _, _, _, hx => by cases hx
  | y :: r, b, x, h, hx => by
    rcases List.mem_cons.1 hx with rfl | hx
    · cases r with
      | nil => exact Or.inr h.1
      | cons z r => exact Or.inl (by have := h.1; simp at this; simp [this])
    · rcases Lnk.mem h.2 hx with q | q
      · exact Or.inl (by simp [q])
      · exact Or.inr q
theorem Rnd.mem {l : List Nat} {x : Nat} (h : Rnd f l) (hx : x ∈ l) : f x ∈ l := by
  rcases Lnk.mem h.2 hx with q | q
  · exact q
  · rw [q]
    cases l with
    | nil => cases hx
    | cons y r => simp
theorem Rnd.turn {l m : List Nat} (h : Rnd f (l ++ m)) : Rnd f (m ++ l) := by
  refine ⟨by have := h.1; rw [List.nodup_append] at this ⊢; exact ⟨this.2.1, this.1, fun a ha b hb e => this.2.2 b hb a ha e.symm⟩, ?_⟩
  have := h.2
  rw [Lnk.append] at this ⊢
  cases l with
  | nil => simp [Lnk] at this ⊢; exact this
  | cons x l =>
    cases m with
    | nil => simp [Lnk] at this ⊢; exact this
    | cons y m => simp at this ⊢; exact ⟨this.2, this.1⟩
theorem Rnd.one {c : Nat} (h : f c = c) : Rnd f [c] := ⟨by simp, h, trivial⟩
theorem Rnd.alone {c : Nat} (h : Rnd f [c]) : f c = c := h.2.1
theorem Rnd.more {c d : Nat} {t : List Nat} (h : Rnd f (c :: d :: t)) : f c = d ∧ d ≠ c := ⟨h.2.1, fun e => by have := h.1; simp [e] at this⟩
theorem Rnd.congr {l : List Nat} (h : Rnd f l) (e : ∀ x ∈ l, g x = f x) : Rnd g l := ⟨h.1, Lnk.congr h.2 e⟩
end

section
variable {k : Nat} {nx pv : Nat → Nat} {c d : Nat}
/-- the last one of a ring is the one ahead of the first -/
theorem Inv.last (h : Inv k nx pv) {m : List Nat} {p : Nat} (hp : p < k) (hl : Lnk nx (m ++ [p]) d) : pv d = p := by
  rw [Lnk.append] at hl
  have e : nx p = d := hl.2.1
  rw [← e, h.pn p hp]
/-- a ring that has neither c nor d in it stays -/
theorem Rnd.other (h : Inv k nx pv) (hd : d < k) {l : List Nat} (hl : Rnd nx l) (h1 : c ∉ l) (h2 : d ∉ l) : Rnd (swN nx pv c d) l :=
  hl.congr fun x hx => by
    have e1 : x ≠ c := fun e => h1 (e ▸ hx)
    have e2 : x ≠ pv d := fun e => h2 (by have := hl.mem hx; rw [e, h.np d hd] at this; exact this)
    simp [swN, e1, e2]
/-- two rings become one -/
theorem Rnd.join (h : Inv k nx pv) {tc td : List Nat} (hk : ∀ x ∈ d :: td, x < k) (h1 : Rnd nx (c :: tc)) (h2 : Rnd nx (d :: td)) (hx : ∀ x ∈ c :: tc, x ∉ d :: td) : Rnd (swN nx pv c d) (c :: (d :: td) ++ tc) := by
  obtain ⟨m, p, e⟩ : ∃ m p, d :: td = m ++ [p] := by
    rcases snoc_or (d :: td) with q | q
    · cases q
    · exact q
  have hd0 : (m ++ [p]).head?.getD c = d := by rw [← e]; rfl
  have h2' := h2.2
  simp only [List.head?_cons, Option.getD_some] at h2'
  rw [e] at h2' hk hx
  have hn2 := h2.1
  rw [e] at hn2 ⊢
  have hp : p < k := hk p (by simp)
  have ep := h.last hp h2'
  rw [Lnk.append] at h2'
  have hcp : c ≠ p := fun q => hx c (by simp) (by simp [q])
  have hn1 := h1.1
  refine ⟨?_, ?_⟩
  · simp only [List.cons_append, List.nodup_cons] at hn1 ⊢
    refine ⟨?_, ?_⟩
    · simp only [List.mem_append] at *
      rintro (q | q)
      · exact hx c (by simp) (by simpa using q)
      · exact hn1.1 q
    · rw [List.nodup_append]
      exact ⟨hn2, hn1.2, fun a ha b hb q => hx b (by simp [hb]) (q ▸ ha)⟩
  · simp only [List.cons_append, List.head?_cons, Option.getD_some]
    refine ⟨?_, ?_⟩
    · have : (m ++ [p] ++ tc).head?.getD c = d := by
        cases m with
        | nil => simpa using hd0
        | cons a m => simpa using hd0
      rw [this]
      simp [swN, ep, hcp]
    · rw [Lnk.append, Lnk.append]
      have h1' := h1.2
      refine ⟨⟨?_, ?_⟩, ?_⟩
      · refine Lnk.congr (f := nx) (by simpa using h2'.1) fun x hxm => ?_
        have e1 : x ≠ p := fun q => by rw [List.nodup_append] at hn2; exact hn2.2.2 x hxm p (by simp) q
        have e2 : x ≠ c := fun q => hx c (by simp) (by simp [← q, hxm])
        simp [swN, ep, e1, e2]
      · refine ⟨?_, trivial⟩
        simp only [List.head?_nil, Option.getD_none]
        have q : nx c = tc.head?.getD c := h1'.1
        rw [← q]
        simp [swN, ep]
      · refine Lnk.congr h1'.2 fun x hxt => ?_
        have e1 : x ≠ p := fun q => hx x (by simp [hxt]) (by simp [q])
        have e2 : x ≠ c := fun q => by simp at hn1; exact hn1.1 (q ▸ hxt)
        simp [swN, ep, e1, e2]
/-- one goes out of its ring -/
theorem Rnd.out (h : Inv k nx pv) {y : Nat} {t : List Nat} (hk : ∀ x ∈ c :: y :: t, x < k) (h1 : Rnd nx (c :: y :: t)) : Rnd (swN nx pv c c) (y :: t) ∧ Rnd (swN nx pv c c) [c] := by
  obtain ⟨m, p, e⟩ : ∃ m p, y :: t = m ++ [p] := by
    rcases snoc_or (y :: t) with q | q
    · cases q
    · exact q
  have hp : p < k := hk p (by rw [e]; simp)
  have hn := h1.1
  have hl := h1.2
  have hy : nx c = y := hl.1
  simp only [List.head?_cons, Option.getD_some] at hl
  have hl2 := hl.2
  rw [e] at hl2
  have ep := h.last hp hl2
  rw [Lnk.append] at hl2
  rw [e] at hn
  have hcp : c ≠ p := fun q => by simp [q] at hn
  have hcm : c ∉ m := fun q => by simp [q] at hn
  have hh : (y :: t).head?.getD 0 = y := rfl
  refine ⟨⟨by rw [e]; exact (List.nodup_cons.1 hn).2, ?_⟩, Rnd.one (by simp [swN, ep, hcp])⟩
  rw [hh, e, Lnk.append]
  refine ⟨?_, ⟨?_, trivial⟩⟩
  · refine Lnk.congr (f := nx) (by simpa using hl2.1) fun x hx => ?_
    have e1 : x ≠ p := fun q => by
      have := (List.nodup_cons.1 hn).2
      rw [List.nodup_append] at this; exact this.2.2 x hx p (by simp) q
    have e2 : x ≠ c := fun q => hcm (q ▸ hx)
    simp [swN, ep, e1, e2]
  · simp [swN, ep, hy]
theorem Rnd.out1 (h : Inv k nx pv) (hc : c < k) (h1 : nx c = c) : swN nx pv c c = nx := by
  have e : pv c = c := by have := h.pn c hc; rwa [h1] at this
  funext x
  unfold swN
  by_cases q : x = c
  · subst q; simp [e, h1]
  · simp [e, q]
end
end Go.Proofs.Yticpldlckdckdaa
