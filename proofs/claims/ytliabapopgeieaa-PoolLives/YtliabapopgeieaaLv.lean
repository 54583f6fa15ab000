/- What PoolLives holds true from call to call: what is told of each Ref, and how many are not over. -/
import Derived.Test.YtliabapopgeieaaSt
namespace Go.Proofs.Ytliabapopgeieaa
open Go.ChangeShapes Go.WideShapes Go.ChangeAt Go.RowKit

theorem count_turn : ∀ (l : List Bool) (k : Nat), l[k]? = some false → (l.set k true).count false + 1 = l.count false
  | [], k, h => by simp at h
  | b :: r, 0, h => by simp at h; subst h; simp
  | b :: r, k + 1, h => by
    simp at h
    have := count_turn r k h
    simp only [List.set_cons_succ, List.count_cons]
    omega

structure Lv (s : St (Int × Int)) (told : List (Nat × Nat)) (over : List Bool) (has : List Int) : Prop where
  most : s.most = 5
  room : s.pl.length ≤ 5
  lo : over.length = told.length
  lh : has.length = told.length
  bk : ∀ b ∈ s.back, ∃ x, s.pl[b]? = some x ∧ x.2.2 = false
  once : s.back.Nodup
  liv : ∀ x ∈ s.pl, x.2.1 ≤ told.length
  tell : ∀ (k : Nat) (p : Nat × Nat), told[k]? = some p → 1 ≤ p.2 ∧ ∃ x, s.pl[p.1]? = some x ∧ p.2 ≤ x.2.1 ∧ (over[k]? = some false → x.2.1 = p.2 ∧ x.2.2 = true ∧ has[k]? = some x.1.1) ∧ (over[k]? = some true → p.2 < x.2.1 ∨ x.2.2 = false)
  apart : ∀ (j k : Nat) (p : Nat × Nat), told[j]? = some p → told[k]? = some p → j = k
  cnt : over.count false + s.back.length = s.pl.length

theorem Lv.start : Lv ⟨5, [], []⟩ [] [] [] :=
  ⟨rfl, by decide, rfl, rfl, fun b hb => (by cases hb), List.nodup_nil, fun x hx => (by cases hx), fun k p h => (by simp at h), fun j k p h => (by simp at h), rfl⟩

section
variable {s : St (Int × Int)} {told : List (Nat × Nat)} {over : List Bool} {has : List Int}

theorem Lv.len (h : Lv s told over has) : over.count false = s.pl.length - s.back.length ∧ s.back.length ≤ s.pl.length ∧ over.count false ≤ 5 := by
  have h1 := h.cnt
  have h2 := h.room
  exact ⟨by omega, by omega, by omega⟩

theorem Lv.over_at (h : Lv s told over has) {k : Nat} (hk : k < told.length) : ∃ b, over[k]? = some b := ⟨_, List.getElem?_eq_getElem (by rw [h.lo]; exact hk)⟩
theorem Lv.has_at (h : Lv s told over has) {k : Nat} (hk : k < told.length) : ∃ v, has[k]? = some v := ⟨_, List.getElem?_eq_getElem (by rw [h.lh]; exact hk)⟩

/-- what is told of a Ref that is over -/
theorem Lv.stale (h : Lv s told over has) {k : Nat} {p : Nat × Nat} (hp : told[k]? = some p) (ho : over[k]? = some true) : lookS s.pl p.1 p.2 = 23 := by
  obtain ⟨h1, x, hx, h2, _, h4⟩ := h.tell k p hp
  have hx' : s.pl[(p.1 : Int).toNat]? = some x := by simpa using hx
  rcases h4 ho with q | q
  · exact lookS_over (by omega) hx' (by omega) (by omega)
  · by_cases c : p.2 < x.2.1
    · exact lookS_over (by omega) hx' (by omega) (by omega)
    · exact lookS_free (by omega) hx' (by omega) (by omega) q
/-- and of one that is not -/
theorem Lv.live (h : Lv s told over has) {k : Nat} {p : Nat × Nat} {v : Int} (hp : told[k]? = some p) (ho : over[k]? = some false) (hv : has[k]? = some v) : lookS s.pl p.1 p.2 = 0 ∧ (getS (0, 0) s.pl p.1 p.2).1 = v ∧ ∃ x, s.pl[p.1]? = some x ∧ x.2 = (p.2, true) := by
  obtain ⟨h1, x, hx, h2, h3, _⟩ := h.tell k p hp
  obtain ⟨q1, q2, q3⟩ := h3 ho
  have hx' : s.pl[(p.1 : Int).toNat]? = some x := by simpa using hx
  have hL := lookS_ok (g := p.2) (show (0 : Int) ≤ p.1 by omega) hx' (by omega) (by omega) q2
  refine ⟨hL, ?_, x, hx, by rw [← q1, ← q2]⟩
  rw [getS_yes hL hx']
  rw [hv] at q3
  injection q3 with q3
  exact q3.symm

theorem Lv.give_over (h : Lv s told over has) {k : Nat} {p : Nat × Nat} (hp : told[k]? = some p) (ho : over[k]? = some true) : Lv (giveS (0, 0) s p.1 p.2) told (over.set k true) has := by
  rw [giveS_no (by rw [h.stale hp ho]; decide)]
  have e : over.set k true = over := by
    apply List.ext_getElem?
    intro j
    by_cases c : k = j
    · subst c
      rw [List.getElem?_set_self (by have := (List.getElem?_eq_some_iff.1 ho).1; exact this), ho]
    · rw [List.getElem?_set_ne c]
  rw [e]
  exact h

theorem Lv.give_live (h : Lv s told over has) {k : Nat} {p : Nat × Nat} (hp : told[k]? = some p) (ho : over[k]? = some false) : Lv (giveS (0, 0) s p.1 p.2) told (over.set k true) has := by
  obtain ⟨v, hv⟩ := h.has_at (k := k) (List.getElem?_eq_some_iff.1 hp).1
  obtain ⟨hL, _, x, hx, hx2⟩ := h.live hp ho hv
  have hx' : s.pl[(p.1 : Int).toNat]? = some x := by simpa using hx
  rw [giveS_yes hL hx']
  simp only [Int.toNat_natCast]
  have hlt : p.1 < s.pl.length := (List.getElem?_eq_some_iff.1 hx).1
  have hnb : p.1 ∉ s.back := fun hm => by
    obtain ⟨y, hy, hy2⟩ := h.bk p.1 hm
    rw [hx] at hy
    injection hy with hy
    subst hy
    rw [hx2] at hy2
    cases hy2
  have hko : k < over.length := (List.getElem?_eq_some_iff.1 ho).1
  refine ⟨h.most, by simpa using h.room, by simpa using h.lo, h.lh, ?_, ?_, ?_, ?_, h.apart, ?_⟩
  · intro b hb
    simp only [List.mem_append, List.mem_singleton] at hb
    rcases hb with hb | rfl
    · obtain ⟨y, hy, hy2⟩ := h.bk b hb
      have hne : p.1 ≠ b := fun e => hnb (e ▸ hb)
      exact ⟨y, by rw [List.getElem?_set_ne hne]; exact hy, hy2⟩
    · exact ⟨_, List.getElem?_set_self hlt, rfl⟩
  · rw [List.nodup_append]
    refine ⟨h.once, by simp, fun a ha b hb => ?_⟩
    simp at hb
    subst hb
    exact fun e => hnb (e ▸ ha)
  · intro y hy
    rcases List.mem_or_eq_of_mem_set hy with q | q
    · exact h.liv y q
    · subst q; exact h.liv x (List.mem_of_getElem? hx)
  · intro j q hq
    obtain ⟨r1, y, hy, r2, r3, r4⟩ := h.tell j q hq
    refine ⟨r1, ?_⟩
    by_cases c : p.1 = q.1
    · rw [← c] at hy
      rw [hx] at hy
      injection hy with hy
      subst hy
      refine ⟨((0, 0), x.2.1, false), by rw [← c, List.getElem?_set_self hlt], r2, fun ho2 => ?_, fun _ => Or.inr rfl⟩
      by_cases ck : k = j
      · subst ck
        rw [List.getElem?_set_self hko] at ho2
        cases ho2
      · rw [List.getElem?_set_ne ck] at ho2
        obtain ⟨r5, _, _⟩ := r3 ho2
        have hq2 : q = p := by
          have : x.2.1 = p.2 := by rw [hx2]
          exact Prod.ext c.symm (by omega)
        exact absurd (h.apart j k p (hq2 ▸ hq) hp) (fun e => ck e.symm)
    · refine ⟨y, by rw [List.getElem?_set_ne c]; exact hy, r2, fun ho2 => ?_, fun ho2 => ?_⟩
      · by_cases ck : k = j
        · subst ck
          rw [List.getElem?_set_self hko] at ho2
          cases ho2
        · rw [List.getElem?_set_ne ck] at ho2
          exact r3 ho2
      · by_cases ck : k = j
        · subst ck
          rw [hp] at hq
          injection hq with hq
          exact absurd (by rw [hq]) c
        · rw [List.getElem?_set_ne ck] at ho2
          exact r4 ho2
  · have h1 := count_turn over k ho
    have h2 := h.cnt
    simp only [List.length_append, List.length_set, List.length_cons, List.length_nil]
    omega

/-- a place that was never taken, as one that is free -/
theorem Lv.more {pl : List ((Int × Int) × Nat × Bool)} {m : Nat} (h : Lv ⟨m, pl, []⟩ told over has) (hl : pl.length ≠ m) : Lv ⟨m, pl ++ [((0, 0), 0, false)], [] ++ [pl.length]⟩ told over has := by
  have hm := h.most
  have hr := h.room
  have hc := h.cnt
  simp only [] at hm hr hc
  refine ⟨hm, by simp; omega, h.lo, h.lh, ?_, by simp, ?_, ?_, h.apart, by simp at hc ⊢; omega⟩
  · intro b hb
    simp at hb
    subst hb
    exact ⟨((0, 0), 0, false), by simp, rfl⟩
  · intro x hx
    simp only [List.mem_append, List.mem_singleton] at hx
    rcases hx with hx | rfl
    · exact h.liv x hx
    · exact Nat.zero_le _
  · intro k p hp
    obtain ⟨r1, y, hy, r2⟩ := h.tell k p hp
    refine ⟨r1, y, ?_, r2⟩
    have := (List.getElem?_eq_some_iff.1 hy).1
    rw [List.getElem?_append_left this]
    exact hy

theorem Lv.take_back {pl : List ((Int × Int) × Nat × Bool)} {bk : List Nat} {m a : Nat} {y : (Int × Int) × Nat × Bool} (h : Lv ⟨m, pl, bk ++ [a]⟩ told over has) (hy : pl[a]? = some y) (v : Int × Int) :
    (∀ k : Nat, told[k]? ≠ some (a, y.2.1 + 1)) ∧ Lv ⟨m, pl.set a (v, y.2.1 + 1, true), bk⟩ (told ++ [(a, y.2.1 + 1)]) (over ++ [false]) (has ++ [v.1]) := by
  have hfree : y.2.2 = false := by
    obtain ⟨x, hx, hx2⟩ := h.bk a (by simp)
    rw [hy] at hx
    injection hx with hx
    rw [hx]; exact hx2
  have hal : a < pl.length := (List.getElem?_eq_some_iff.1 hy).1
  have hnd := h.once
  simp only [] at hnd
  rw [List.nodup_append] at hnd
  have hold : ∀ (k : Nat) (p : Nat × Nat), told[k]? = some p → p.1 = a → p.2 ≤ y.2.1 ∧ over[k]? ≠ some false := fun k p hp e => by
    obtain ⟨_, x, hx, r2, r3, _⟩ := h.tell k p hp
    simp only [] at hx
    rw [e, hy] at hx
    injection hx with hx
    subst hx
    exact ⟨r2, fun ho => by have := (r3 ho).2.1; rw [hfree] at this; cases this⟩
  have hnew : ∀ k : Nat, told[k]? ≠ some (a, y.2.1 + 1) := fun k hk => by
    have := (hold k _ hk rfl).1
    simp only [] at this
    omega
  
  refine ⟨hnew, h.most, by simpa using h.room, by simp [h.lo], by simp [h.lh], ?_, hnd.1, ?_, ?_, ?_, ?_⟩
  · intro b hb
    obtain ⟨x, hx, hx2⟩ := h.bk b (by simp [hb])
    have hne : a ≠ b := fun e => hnd.2.2 b hb a (by simp) e.symm
    exact ⟨x, by simp only [List.getElem?_set_ne hne]; exact hx, hx2⟩
  · intro x hx
    rcases List.mem_or_eq_of_mem_set hx with q | q
    · have := h.liv x q; simp; omega
    · subst q
      have := h.liv y (List.mem_of_getElem? hy)
      simp; omega
  · intro k p hp
    by_cases ck : k < told.length
    · rw [List.getElem?_append_left ck] at hp
      obtain ⟨r1, x, hx, r2, r3, r4⟩ := h.tell k p hp
      have hol : k < over.length := by rw [h.lo]; exact ck
      have hhl : k < has.length := by rw [h.lh]; exact ck
      rw [List.getElem?_append_left hol, List.getElem?_append_left hhl]
      refine ⟨r1, ?_⟩
      by_cases c : p.1 = a
      · obtain ⟨q1, q2⟩ := hold k p hp c
        refine ⟨(v, y.2.1 + 1, true), by rw [c]; exact List.getElem?_set_self hal, by simp only []; omega, fun ho => absurd ho q2, fun _ => Or.inl (by simp only []; omega)⟩
      · exact ⟨x, by simp only [List.getElem?_set_ne (Ne.symm c)]; exact hx, r2, r3, r4⟩
    · have hkl : k = told.length := by
        have := (List.getElem?_eq_some_iff.1 hp).1
        simp at this
        omega
      subst hkl
      simp only [List.getElem?_append_right (Nat.le_refl _), Nat.sub_self, List.getElem?_cons_zero, Option.some.injEq] at hp
      subst hp
      refine ⟨by simp, (v, y.2.1 + 1, true), List.getElem?_set_self hal, Nat.le_refl _, fun _ => ⟨rfl, rfl, ?_⟩, fun ho => ?_⟩
      · rw [← h.lh]; simp
      · rw [← h.lo] at ho; simp at ho
  · intro j k p hj hk
    by_cases cj : j < told.length
    · by_cases ck : k < told.length
      · rw [List.getElem?_append_left cj] at hj
        rw [List.getElem?_append_left ck] at hk
        exact h.apart j k p hj hk
      · have hkl : k = told.length := by have := (List.getElem?_eq_some_iff.1 hk).1; simp at this; omega
        subst hkl
        rw [List.getElem?_append_left cj] at hj
        simp only [List.getElem?_append_right (Nat.le_refl _), Nat.sub_self, List.getElem?_cons_zero, Option.some.injEq] at hk
        subst hk
        exact absurd hj (hnew j)
    · have hjl : j = told.length := by have := (List.getElem?_eq_some_iff.1 hj).1; simp at this; omega
      subst hjl
      by_cases ck : k < told.length
      · rw [List.getElem?_append_left ck] at hk
        simp only [List.getElem?_append_right (Nat.le_refl _), Nat.sub_self, List.getElem?_cons_zero, Option.some.injEq] at hj
        subst hj
        exact absurd hk (hnew k)
      · have hkl : k = told.length := by have := (List.getElem?_eq_some_iff.1 hk).1; simp at this; omega
        exact hkl.symm
  · have := h.cnt
    simp at this ⊢
    omega

theorem Lv.take (h : Lv s told over has) (hok : (nextS ((0, 0) : Int × Int) s).2.2 = true) (v : Int × Int) :
    (∀ k : Nat, told[k]? ≠ some (tookS (0, 0) s)) ∧ Lv (takeS (0, 0) v s) (told ++ [tookS (0, 0) s]) (over ++ [false]) (has ++ [v.1]) := by
  obtain ⟨m, pl, back⟩ := s
  rcases snoc_or back with rfl | ⟨bk, a, rfl⟩
  · by_cases c : pl.length = m
    · rw [nextS_full c] at hok; cases hok
    · have hy : (pl ++ [(((0, 0) : Int × Int), 0, false)])[pl.length]? = some ((0, 0), 0, false) := by simp
      have := (h.more c).take_back hy v
      have e1 : tookS ((0, 0) : Int × Int) ⟨m, pl, []⟩ = (pl.length, 0 + 1) := by unfold tookS; rw [nextS_new c]; simp [livS]
      have e2 : takeS ((0, 0) : Int × Int) v ⟨m, pl, []⟩ = ⟨m, (pl ++ [((0, 0), 0, false)]).set pl.length (v, 0 + 1, true), []⟩ := by unfold takeS; rw [nextS_new c]; simp [livS]
      rw [e1, e2]
      exact this
  · obtain ⟨y, hy, _⟩ := h.bk a (by simp)
    have := h.take_back hy v
    have hl : livS (⟨m, pl, bk⟩ : St (Int × Int)) a = y.2.1 := by unfold livS; simp only [] at hy ⊢; rw [hy]
    have e1 : tookS ((0, 0) : Int × Int) ⟨m, pl, bk ++ [a]⟩ = (a, y.2.1 + 1) := by unfold tookS; rw [nextS_back]; simp [hl]
    have e2 : takeS ((0, 0) : Int × Int) v ⟨m, pl, bk ++ [a]⟩ = ⟨m, pl.set a (v, y.2.1 + 1, true), bk⟩ := by unfold takeS; rw [nextS_back]; simp [hl]
    rw [e1, e2]
    exact this
end
end Go.Proofs.Ytliabapopgeieaa
