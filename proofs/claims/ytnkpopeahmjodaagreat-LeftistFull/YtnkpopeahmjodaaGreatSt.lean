/- The arena as plain data: what its cells have, whether they are taken, those that were given back, its steps. -/
import Derived.Test.YtnkpopeahmjodaaGreatMem
namespace Go.Proofs.YtnkpopeahmjodaaGreat
open Go.ChangeShapes Go.WideShapes Go.ChangeAt Go.RowKit

theorem info_parts {P : Program} {t : TypeId} {z : Value} {n b : Nat} (h : (P.info? t).map (fun i => (i.zero, i.size, i.bytes)) = some (some z, n, b)) : ∃ i, P.info? t = some i ∧ i.zero = some z ∧ i.size = n ∧ i.bytes = b := by
  cases hq : P.info? t with
  | none => simp [hq] at h
  | some i => simp [hq] at h; exact ⟨i, rfl, h.1, h.2.1, h.2.2⟩
theorem ret_ib {a b : Int} {c d : Bool} (h : a = b) (h' : c = d) : Ending.returned (.tuple #[.int .i64 a, .bool c]) = .returned (.tuple #[.int .i64 b, .bool d]) := by rw [h, h']
theorem ret_int {k : IntKind} {a b : Int} (h : a = b) : Ending.returned (.int k a) = .returned (.int k b) := by rw [h]
theorem ret_bool {a b : Bool} (h : a = b) : Ending.returned (.bool a) = .returned (.bool b) := by rw [h]
theorem row_snoc {α : Type} {f : α → List Value} (l : List α) (x : α) : row f (l ++ [x]) = row f l ++ f x := by rw [row_append]; simp [row]
theorem snoc_or {α : Type} (l : List α) : l = [] ∨ ∃ m x, l = m ++ [x] := by
  rcases List.eq_nil_or_concat l with h | ⟨m, x, h⟩
  · exact Or.inl h
  · exact Or.inr ⟨m, x, by simpa using h⟩
theorem row_like {α : Type} {f : α → List Value} : ∀ (l : List α) (i : Nat) (x x' : α), l[i]? = some x → f x' = f x → row f (l.set i x') = row f l
  | [], _, _, _, h, _ => by simp at h
  | y :: r, 0, x, x', h, he => by
    simp at h; subst h
    simp only [List.set_cons_zero, row, he]
  | y :: r, i + 1, x, x', h, he => by
    simp at h
    simp only [List.set_cons_succ, row, row_like r i x x' h he]

/-- one element of a row of elements of one cell -/
theorem own1_at {α : Type} {f : α → List Value} {w : World} {b : Nat} {e : TypeId} {v : Value} {l : List α} (h : w.ownsRow b e 1 v l.length (row f l)) (hf : ∀ x, (f x).length = 1) {i : Nat} {x : α} (hx : l[i]? = some x) :
    ∃ g cap, v = .slice (some ⟨g, 0, none⟩) l.length cap ∧ g < w.heap.size ∧ (∀ j, w.frozen? ⟨g, j, none⟩ = false) ∧ w.cell? ⟨g, i, none⟩ = (f x)[0]? := by
  have hi : i < l.length := (List.getElem?_eq_some_iff.1 hx).1
  obtain ⟨g, cap, rfl, _, hg⟩ := h.form (by omega)
  refine ⟨g, cap, rfl, hg, fun j => h.frozenAt j, ?_⟩
  rw [h.cellAt i (by omega), show i = i * 1 + 0 by omega, row_get hf l i 0 x hx (by decide)]

/- a cell: what it has, whether it is taken -/
structure St where
  most : Nat
  pl : List ((Nat → Int) × Bool)
  back : List Nat
  steps : Nat

/-- how many cells there are -/
def most0 (n : Int) : Nat := (min (max n 0) 65536).toNat
theorem most0_le (n : Int) : most0 n ≤ 65536 := by unfold most0; omega
def st0 (n : Int) : St := ⟨most0 n, [], [], 0⟩

/-- what a cell has that was just taken -/
def fr (j : Nat) : Int := if j = 4 ∨ j = 5 ∨ j = 7 ∨ j = 8 then 0 else -1
def upd (x : Nat → Int) (j : Nat) (v : Int) : Nat → Int := fun k => if k = j then v else x k

def tick (s : St) : St := ⟨s.most, s.pl, s.back, s.steps + 1⟩
def liveS (s : St) (c : Int) : Bool := decide (0 ≤ c) && (match s.pl[c.toNat]? with | some x => x.2 | none => false)
def mayS (s : St) (c f : Int) : Bool := liveS s c && (decide (0 ≤ f) && decide (f ≤ 9))
def hasS (s : St) (c : Nat) : Nat → Int := match s.pl[c]? with | some x => x.1 | none => fr
def getS (s : St) (c f : Int) : Int := if mayS s c f = true then hasS s c.toNat f.toNat else -1
def cellS (s : St) (c f : Int) : Int := if 0 ≤ getS s c f ∧ getS s c f < s.most then getS s c f else -1
def setS (s : St) (c f v : Int) : St := if mayS s c f = true then ⟨s.most, s.pl.set c.toNat (upd (hasS s c.toNat) f.toNat v, true), s.back, s.steps + 1⟩ else tick s
def giveS (s : St) (c : Int) : St := if liveS s c = true then ⟨s.most, s.pl.set c.toNat (hasS s c.toNat, false), s.back ++ [c.toNat], s.steps + 1⟩ else tick s
/-- which cell is taken now -/
def nextS (s : St) : Int := match s.back.getLast? with
  | some a => a
  | none => if s.pl.length = s.most then -1 else s.pl.length
def takeS (s : St) : St := match s.back.getLast? with
  | some a => ⟨s.most, s.pl.set a (fr, true), s.back.dropLast, s.steps + 1⟩
  | none => if s.pl.length = s.most then tick s else ⟨s.most, s.pl ++ [(fr, true)], s.back, s.steps + 1⟩
/-- how many are taken -/
def cnt : List ((Nat → Int) × Bool) → Nat
  | [] => 0
  | x :: r => x.2.toNat + cnt r

theorem cnt_append : ∀ l m : List ((Nat → Int) × Bool), cnt (l ++ m) = cnt l + cnt m
  | [], m => by simp [cnt]
  | x :: r, m => by simp only [List.cons_append, cnt, cnt_append r m]; omega
theorem cnt_set : ∀ (l : List ((Nat → Int) × Bool)) (i : Nat) (x y : ((Nat → Int) × Bool)), l[i]? = some x → cnt (l.set i y) + x.2.toNat = cnt l + y.2.toNat
  | [], i, x, y, h => by simp at h
  | z :: r, 0, x, y, h => by simp at h; subst h; simp only [List.set_cons_zero, cnt]; omega
  | z :: r, i + 1, x, y, h => by
    simp at h
    have := cnt_set r i x y h
    simp only [List.set_cons_succ, cnt]; omega

/-- what is true of every arena -/
structure Ok (s : St) : Prop where
  top : s.most ≤ 65536
  fits : s.pl.length ≤ s.most
  free : ∀ c ∈ s.back, ∃ x, s.pl[c]? = some (x, false)
  once : s.back.Nodup
  count : cnt s.pl + s.back.length = s.pl.length

section
variable {s : St} {c f v : Int}
theorem Ok.tick (h : Ok s) : Ok (tick s) := ⟨h.top, h.fits, h.free, h.once, h.count⟩
theorem Ok.start (n : Int) : Ok (st0 n) := ⟨most0_le n, Nat.zero_le _, fun c h => (by cases h), List.nodup_nil, rfl⟩
theorem Ok.back_le (h : Ok s) : s.back.length ≤ s.pl.length := by have := h.count; omega
theorem live_iff : liveS s c = true ↔ 0 ≤ c ∧ ∃ x, s.pl[c.toNat]? = some (x, true) := by
  unfold liveS
  cases hx : s.pl[c.toNat]? with
  | none => simp
  | some y => obtain ⟨y, b⟩ := y; simp
theorem has_of {n : Nat} {x : ((Nat → Int) × Bool)} (h : s.pl[n]? = some x) : hasS s n = x.1 := by unfold hasS; rw [h]
theorem live_neg (h : c < 0) : liveS s c = false := by unfold liveS; simp; omega
theorem live_far (h : (s.pl.length : Int) ≤ c) : liveS s c = false := by unfold liveS; rw [List.getElem?_eq_none (by omega)]; simp
theorem live_at {x : ((Nat → Int) × Bool)} (h : 0 ≤ c) (hx : s.pl[c.toNat]? = some x) : liveS s c = x.2 := by unfold liveS; rw [hx]; simp [h]
theorem may_not (h : liveS s c = false) : mayS s c f = false := by unfold mayS; rw [h]; rfl
theorem may_yes (h : mayS s c f = true) : liveS s c = true ∧ 0 ≤ f ∧ f ≤ 9 := by unfold mayS at h; simpa using h
theorem live_tick : liveS (tick s) c = liveS s c := rfl
theorem get_tick : getS (tick s) c f = getS s c f := rfl
theorem Ok.set (h : Ok s) : Ok (setS s c f v) := by
  unfold setS
  split
  · rename_i hm
    obtain ⟨h0, x, hx⟩ := live_iff.1 (may_yes hm).1
    refine ⟨h.top, by simpa using h.fits, fun a ha => ?_, h.once, ?_⟩
    · obtain ⟨y, hy⟩ := h.free a ha
      refine ⟨y, ?_⟩
      have hne : c.toNat ≠ a := fun e => by rw [e, hy] at hx; simp at hx
      rw [List.getElem?_set_ne hne]; exact hy
    · have := cnt_set s.pl c.toNat _ (upd (hasS s c.toNat) f.toNat v, true) hx
      have hc := h.count
      simp only [List.length_set]
      simp at this ⊢; omega
  · exact h.tick
theorem Ok.give (h : Ok s) : Ok (giveS s c) := by
  unfold giveS
  split
  · rename_i hm
    obtain ⟨h0, x, hx⟩ := live_iff.1 hm
    have hlt : c.toNat < s.pl.length := (List.getElem?_eq_some_iff.1 hx).1
    have hnot : c.toNat ∉ s.back := fun hin => by
      obtain ⟨y, hy⟩ := h.free _ hin
      rw [hy] at hx; simp at hx
    refine ⟨h.top, by simpa using h.fits, fun a ha => ?_, ?_, ?_⟩
    · simp only [List.mem_append, List.mem_singleton] at ha
      rcases ha with ha | rfl
      · obtain ⟨y, hy⟩ := h.free a ha
        refine ⟨y, ?_⟩
        have hne : c.toNat ≠ a := fun e => hnot (e ▸ ha)
        rw [List.getElem?_set_ne hne]; exact hy
      · exact ⟨_, by rw [List.getElem?_set_self hlt]⟩
    · rw [List.nodup_append]
      exact ⟨h.once, by simp, fun a ha b hb => by simp at hb; subst hb; exact fun e => hnot (e ▸ ha)⟩
    · have := cnt_set s.pl c.toNat _ (hasS s c.toNat, false) hx
      have hc := h.count
      simp at this ⊢; omega
  · exact h.tick
theorem Ok.take (h : Ok s) : Ok (takeS s) := by
  unfold takeS
  split
  · rename_i a ha
    obtain ⟨bk, hbk⟩ : ∃ bk, s.back = bk ++ [a] := ⟨s.back.dropLast, by
      have := List.dropLast_concat_getLast (l := s.back) (by intro e; rw [e] at ha; simp at ha)
      rw [List.getLast?_eq_some_getLast (by intro e; rw [e] at ha; simp at ha)] at ha
      injection ha with ha
      rw [ha] at this; exact this.symm⟩
    have hfr := h.free
    have hon := h.once
    have hct := h.count
    rw [hbk] at hfr hon hct ⊢
    obtain ⟨y, hy⟩ := hfr a (by simp)
    rw [List.nodup_append] at hon
    simp only [List.dropLast_concat]
    refine ⟨h.top, by simpa using h.fits, fun b hb => ?_, hon.1, ?_⟩
    · obtain ⟨z, hz⟩ := hfr b (by simp [hb])
      have hne : a ≠ b := fun e => hon.2.2 b hb a (by simp) e.symm
      exact ⟨z, by rw [List.getElem?_set_ne hne]; exact hz⟩
    · have := cnt_set s.pl a _ (fr, true) hy
      simp at this hct ⊢; omega
  · rename_i hn
    have hb : s.back = [] := by simpa using hn
    split
    · exact h.tick
    · rename_i hl
      refine ⟨h.top, by have := h.fits; simp; omega, fun b hb' => (by rw [hb] at hb'; cases hb'), h.once, ?_⟩
      have hct := h.count
      simp only [cnt_append, List.length_append]
      simp [cnt] at hct ⊢; omega
end
end Go.Proofs.YtnkpopeahmjodaaGreat
