/- Two heaps and what they hold: how New, Push, Pop, Give turn them. -/
import Derived.Test.YtnkpopeahmjodaaGreatTw
import Derived.Test.YtnkpopeahmjodaaGreatHm
namespace Go.Proofs.YtnkpopeahmjodaaGreat
open Go.ChangeShapes Go.WideShapes Go.ChangeAt Go.RowKit
open Tr

/-- a heap, and the list of what it holds -/
structure Hh (s : St) (t : Tr) (L : List (Nat × Int × Int)) : Prop where
  gd : Gd s t
  pm : (L.map (fun x => x.1)).Perm t.items
  en : ∀ x ∈ L, hasS s x.1 7 = x.2.1 ∧ hasS s x.1 8 = x.2.2
/-- two heaps; no cell is lost -/
structure Inv (s : St) (t u : Tr) (L M : List (Nat × Int × Int)) : Prop where
  ok : Ok s
  a : Hh s t L
  b : Hh s u M
  dj : ∀ c ∈ t.cells, c ∉ u.cells
  num : cnt s.pl = 2 * (L.length + M.length)
/-- two heaps, and an item that is in none -/
structure Inv1 (s : St) (t u : Tr) (L M : List (Nat × Int × Int)) (i : Nat) : Prop where
  ok : Ok s
  a : Hh s t L
  b : Hh s u M
  dj : ∀ c ∈ t.cells, c ∉ u.cells
  num : cnt s.pl = 2 * (L.length + M.length) + 1
  live : LS s i = true
  out : i ∉ t.cells ∧ i ∉ u.cells
  free : hasS s i 9 = -1

section
variable {s s' : St} {t u : Tr} {L M : List (Nat × Int × Int)} {i : Nat}
theorem Hh.nil (s : St) : Hh s lf [] := ⟨Gd.lf s, .nil, fun x h => by cases h⟩
theorem Hh.len (h : Hh s t L) : t.size = L.length := by rw [← size_items, ← h.pm.length_eq, List.length_map]
theorem Hh.mem (h : Hh s t L) {x : Nat × Int × Int} (hx : x ∈ L) : x.1 ∈ t.items := h.pm.mem_iff.1 (List.mem_map.2 ⟨x, hx, rfl⟩)
theorem Hh.keep (h : Hh s t L) (hf : ∀ c ∈ t.cells, LS s' c = LS s c ∧ ∀ j, hasS s' c j = hasS s c j) : Hh s' t L :=
  ⟨h.gd.keep hf, h.pm, fun x hx => by
    have := hf x.1 (items_sub (h.mem hx))
    rw [this.2, this.2]; exact h.en x hx⟩
theorem Inv.swap (h : Inv s t u L M) : Inv s u t M L := ⟨h.ok, h.b, h.a, fun c hc q => h.dj c q hc, by have := h.num; omega⟩
theorem Inv1.swap (h : Inv1 s t u L M i) : Inv1 s u t M L i := ⟨h.ok, h.b, h.a, fun c hc q => h.dj c q hc, by have := h.num; omega, h.live, h.out.symm, h.free⟩
theorem Inv.tk (h : Inv s t u L M) (k : Nat) : Inv (tk s k) t u L M := ⟨(Sm.tk h.ok k).ok, h.a.keep fun _ _ => ⟨rfl, fun _ => rfl⟩, h.b.keep fun _ _ => ⟨rfl, fun _ => rfl⟩, h.dj, h.num⟩
theorem Inv1.tk (h : Inv1 s t u L M i) (k : Nat) : Inv1 (tk s k) t u L M i := ⟨(Sm.tk h.ok k).ok, h.a.keep fun _ _ => ⟨rfl, fun _ => rfl⟩, h.b.keep fun _ _ => ⟨rfl, fun _ => rfl⟩, h.dj, h.num, h.live, h.out, h.free⟩
theorem Inv.start (n : Int) : Inv (st0 n) lf lf [] [] := ⟨Ok.start n, Hh.nil _, Hh.nil _, fun c hc => by simp [Tr.cells] at hc, rfl⟩
theorem Gd.live (h : Gd s t) : ∀ c ∈ t.cells, LS s c = true := h.hp.live

theorem cnt_sm (ok : Ok s) (h : Sm s s') : cnt s'.pl = cnt s.pl := by
  have h1 := ok.count
  have h2 := h.ok.count
  rw [h.back, h.len] at h2
  omega
theorem room_iff (ok : Ok s) : 0 ≤ nextS s ↔ cnt s.pl < s.most := by
  have h1 := ok.count
  have h2 := ok.fits
  unfold nextS
  split
  · rename_i a ha
    have : s.back.length ≠ 0 := fun e => by rw [List.eq_nil_of_length_eq_zero e] at ha; simp at ha
    constructor
    · intro _; omega
    · intro _; omega
  · rename_i hn
    have hb : s.back = [] := by simpa using hn
    rw [hb] at h1
    simp at h1
    split
    · rename_i q; constructor
      · intro z; omega
      · intro z; omega
    · constructor
      · intro _; omega
      · intro _; omega
theorem getLast_split {l : List Nat} {a : Nat} (h : l.getLast? = some a) : ∃ m, l = m ++ [a] := by
  rcases snoc_or l with rfl | ⟨m, x, rfl⟩
  · simp at h
  · simp at h; subst h; exact ⟨m, rfl⟩
/-- what Take does -/
theorem take_view (ok : Ok s) (hx : 0 ≤ nextS s) : ∃ n : Nat, nextS s = (n : Int) ∧ LS s n = false ∧ (∀ c, LS (takeS s) c = if c = n then true else LS s c) ∧ (∀ c j, hasS (takeS s) c j = if c = n then fr j else hasS s c j) ∧ cnt (takeS s).pl = cnt s.pl + 1 := by
  cases hb : s.back.getLast? with
  | some a =>
    have e1 : nextS s = (a : Int) := by unfold nextS; rw [hb]
    have e2 : takeS s = ⟨s.most, s.pl.set a (fr, true), s.back.dropLast, s.steps + 1⟩ := by unfold takeS; rw [hb]
    obtain ⟨x, hx⟩ := ok.free a (List.mem_of_getLast? hb)
    have hlt : a < s.pl.length := (List.getElem?_eq_some_iff.1 hx).1
    refine ⟨a, e1, ?_, fun c => ?_, fun c j => ?_, ?_⟩
    · unfold LS; rw [live_at (x := (x, false)) (by omega) (by simpa using hx)]
    · rw [e2]
      unfold LS liveS
      simp only [Int.toNat_natCast]
      by_cases q : c = a
      · subst q; rw [List.getElem?_set_self hlt]; simp
      · rw [List.getElem?_set_ne (fun z => q z.symm), if_neg q]
    · rw [e2]
      unfold hasS
      simp only
      by_cases q : c = a
      · subst q; rw [List.getElem?_set_self hlt]; simp
      · rw [List.getElem?_set_ne (fun z => q z.symm), if_neg q]
    · rw [e2]
      have := cnt_set s.pl a _ (fr, true) hx
      simp at this ⊢; omega
  | none =>
    have hne : ¬ s.pl.length = s.most := fun e => by
      unfold nextS at hx
      rw [hb] at hx
      simp only at hx
      rw [if_pos e] at hx
      omega
    have e1 : nextS s = (s.pl.length : Int) := by unfold nextS; rw [hb]; simp only; rw [if_neg hne]
    have e2 : takeS s = ⟨s.most, s.pl ++ [(fr, true)], s.back, s.steps + 1⟩ := by unfold takeS; rw [hb]; simp only; rw [if_neg hne]
    refine ⟨s.pl.length, e1, ?_, fun c => ?_, fun c j => ?_, ?_⟩
    · unfold LS; exact live_far (by omega)
    · rw [e2]
      unfold LS liveS
      simp only [Int.toNat_natCast]
      by_cases q : c = s.pl.length
      · subst q; simp
      · rw [if_neg q]
        by_cases z : c < s.pl.length
        · rw [List.getElem?_append_left z]
        · rw [List.getElem?_eq_none (by simp; omega), List.getElem?_eq_none (by omega)]
    · rw [e2]
      unfold hasS
      simp only
      by_cases q : c = s.pl.length
      · subst q; simp
      · rw [if_neg q]
        by_cases z : c < s.pl.length
        · rw [List.getElem?_append_left z]
        · rw [List.getElem?_eq_none (by simp; omega), List.getElem?_eq_none (by omega)]
    · rw [e2, cnt_append]; rfl
theorem take_full (hx : ¬ 0 ≤ nextS s) : takeS s = tick s := by
  unfold nextS at hx
  unfold takeS
  split at hx
  · omega
  · split at hx
    · rename_i z; rw [if_pos z]
    · omega

/-- New -/
theorem new_inv (h : Inv s t u L M) (key serial : Int) (hx : 0 ≤ nextS s) : ∃ i : Nat, nextS s = (i : Int) ∧ Inv1 (newS s key serial) t u L M i ∧ hasS (newS s key serial) i 7 = key ∧ hasS (newS s key serial) i 8 = serial := by
  obtain ⟨n, e, h1, h2, h3, h4⟩ := take_view h.ok hx
  refine ⟨n, e, ?_⟩
  unfold newS
  rw [if_pos hx, e]
  have ok1 := h.ok.take
  have l1 : LS (takeS s) n = true := by rw [h2, if_pos rfl]
  have m1 := Sm.set ok1 (n : Int) 7 key
  have v1 : hasS (setS (takeS s) (n : Int) 7 key) = put (hasS (takeS s)) n 7 key := set_has (j := 7) l1 (by decide)
  have l2 : LS (setS (takeS s) (n : Int) 7 key) n = true := by rw [m1.ls]; exact l1
  have m2 := m1.trans (Sm.set m1.ok (n : Int) 8 serial)
  have v2 : hasS (setS (setS (takeS s) (n : Int) 7 key) (n : Int) 8 serial) = put (put (hasS (takeS s)) n 7 key) n 8 serial := by rw [← v1]; exact set_has (j := 8) l2 (by decide)
  have hne : ∀ t : Tr, Gd s t → ∀ c ∈ t.cells, c ≠ n := fun t g c hc q => by subst q; rw [g.live c hc] at h1; cases h1
  have hk : ∀ c, c ≠ n → LS (setS (setS (takeS s) (n : Int) 7 key) (n : Int) 8 serial) c = LS s c ∧ ∀ j, hasS (setS (setS (takeS s) (n : Int) 7 key) (n : Int) 8 serial) c j = hasS s c j := fun c hc => ⟨by rw [m2.ls, h2, if_neg hc], fun j => by rw [v2, put_ne hc, put_ne hc, h3, if_neg hc]⟩
  refine ⟨⟨m2.ok, h.a.keep fun c hc => hk c (hne t h.a.gd c hc), h.b.keep fun c hc => hk c (hne u h.b.gd c hc), h.dj, ?_, ?_, ⟨fun q => hne t h.a.gd n q rfl, fun q => hne u h.b.gd n q rfl⟩, ?_⟩, ?_, ?_⟩
  · rw [cnt_sm ok1 m2, h4, h.num]
  · rw [m2.ls]; exact l1
  · rw [v2, put_nj (by decide), put_nj (by decide), h3, if_pos rfl]; rfl
  · rw [v2, put_nj (by decide), put_at]
  · rw [v2, put_at]
/-- the item is given back -/
theorem give_inv (h : Inv1 s t u L M i) : Inv (giveS s (i : Int)) t u L M := by
  have e1 := give_ls h.live
  have e2 := give_has h.live
  obtain ⟨e3, e4⟩ := give_back h.live
  have hk : ∀ c, c ≠ i → LS (giveS s (i : Int)) c = LS s c ∧ ∀ j, hasS (giveS s (i : Int)) c j = hasS s c j := fun c hc => ⟨by rw [e1]; simp only; rw [if_neg hc], fun j => by rw [e2]⟩
  refine ⟨h.ok.give, h.a.keep fun c hc => hk c fun q => h.out.1 (q ▸ hc), h.b.keep fun c hc => hk c fun q => h.out.2 (q ▸ hc), h.dj, ?_⟩
  have := h.ok.count
  have q := h.ok.give (c := (i : Int)) |>.count
  rw [e3, e4] at q
  simp at q
  have := h.num
  omega
end
end Go.Proofs.YtnkpopeahmjodaaGreat
