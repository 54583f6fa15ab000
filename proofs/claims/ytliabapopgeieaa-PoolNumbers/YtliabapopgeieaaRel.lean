/- What is alike in the pool and in the document's pool, from call to call. -/
import Derived.Test.YtliabapopgeieaaAll
import Derived.Test.YtliabapopgeieaaRh
namespace Go.Proofs.Ytliabapopgeieaa
open Go.ChangeShapes Go.WideShapes Go.ChangeAt Go.RowKit

/-- how many are taken -/
def cntT : List (Int × Nat × Bool) → Nat
  | [] => 0
  | x :: r => x.2.2.toNat + cntT r
theorem cntT_append : ∀ l m : List (Int × Nat × Bool), cntT (l ++ m) = cntT l + cntT m
  | [], m => by simp [cntT]
  | x :: r, m => by simp only [List.cons_append, cntT, cntT_append r m]; omega
theorem cntT_set : ∀ (l : List (Int × Nat × Bool)) (i : Nat) (x y : Int × Nat × Bool), l[i]? = some x → cntT (l.set i y) + x.2.2.toNat = cntT l + y.2.2.toNat
  | [], i, x, y, h => by simp at h
  | z :: r, 0, x, y, h => by simp at h; subst h; simp only [List.set_cons_zero, cntT]; omega
  | z :: r, i + 1, x, y, h => by
    simp at h
    have := cntT_set r i x y h
    simp only [List.set_cons_succ, cntT]
    omega
theorem allF_cnt : ∀ (l : List (Int × Nat × Bool)) (i : Nat), (allF i l).length = cntT l
  | [], i => rfl
  | x :: r, i => by
    simp only [allF, cntT, ← allF_cnt r (i + 1)]
    split
    · rename_i h; rw [h]; simp; omega
    · rename_i h; rw [Bool.not_eq_true] at h; rw [h]; simp

structure Rel (s t : St Int) (N : Nat) : Prop where
  most : s.most = t.most
  room : s.pl.length ≤ s.most
  back : s.back = t.back
  len : s.pl.length = t.pl.length
  like : ∀ (i : Nat) (x y : Int × Nat × Bool), s.pl[i]? = some x → t.pl[i]? = some y → x.2 = y.2 ∧ (x.2.2 = true → x.1 = y.1)
  bk : ∀ b ∈ s.back, ∃ x, s.pl[b]? = some x ∧ x.2.2 = false
  once : s.back.Nodup
  cnt : cntT s.pl + s.back.length = s.pl.length
  few : s.pl.length ≤ N
  liv : ∀ x ∈ s.pl, x.2.1 ≤ N

section
variable {s t : St Int} {N : Nat}

theorem Rel.start (n : Nat) : Rel ⟨n, [], []⟩ ⟨n, [], []⟩ 0 :=
  ⟨rfl, Nat.zero_le _, rfl, rfl, fun i x y h => (by simp at h), fun b hb => (by cases hb), List.nodup_nil, rfl, Nat.le_refl _, fun x hx => (by cases hx)⟩

theorem Rel.other (h : Rel s t N) {i : Nat} {x : Int × Nat × Bool} (hx : s.pl[i]? = some x) : ∃ y, t.pl[i]? = some y ∧ x.2 = y.2 ∧ (x.2.2 = true → x.1 = y.1) := by
  have hi : i < t.pl.length := by rw [← h.len]; exact (List.getElem?_eq_some_iff.1 hx).1
  have hy : t.pl[i]? = some t.pl[i] := List.getElem?_eq_getElem hi
  exact ⟨_, hy, h.like i x _ hx hy⟩

theorem Rel.look (h : Rel s t N) (a g : Int) : lookS t.pl a g = lookS s.pl a g := by
  by_cases c : a < 0
  · rw [lookS_neg c, lookS_neg c]
  · cases hx : s.pl[a.toNat]? with
    | none =>
      have h1 : s.pl.length ≤ a.toNat := by simpa using hx
      have hl := h.len
      rw [lookS_far (l := t.pl) (by omega), lookS_far (l := s.pl) (by omega)]
    | some x =>
      obtain ⟨y, hy, e, _⟩ := h.other hx
      rw [lookS_at (by omega) hx, lookS_at (by omega) hy, e]
theorem Rel.get (h : Rel s t N) (a g : Int) : getS 0 t.pl a g = getS 0 s.pl a g := by
  by_cases c : lookS s.pl a g = 0
  · obtain ⟨_, x, hx, _, _, ht⟩ := lookS_zero c
    obtain ⟨y, hy, _, e⟩ := h.other hx
    rw [getS_yes c hx, getS_yes (by rw [h.look]; exact c) hy, e ht]
  · rw [getS_no c, getS_no (by rw [h.look]; exact c)]
theorem allF_like : ∀ (l m : List (Int × Nat × Bool)) (i : Nat), l.length = m.length → (∀ (j : Nat) x y, l[j]? = some x → m[j]? = some y → x.2 = y.2) → allF i l = allF i m
  | [], [], _, _, _ => rfl
  | [], _ :: _, _, h, _ => by simp at h
  | _ :: _, [], _, h, _ => by simp at h
  | x :: r, y :: q, i, h, hl => by
    have e := hl 0 x y rfl rfl
    simp only [allF, e]
    rw [allF_like r q (i + 1) (by simpa using h) (fun j a b ha hb => hl (j + 1) a b (by simpa using ha) (by simpa using hb))]
theorem Rel.all (h : Rel s t N) : allS t.pl = allS s.pl := (allF_like _ _ 0 h.len fun j x y hx hy => (h.like j x y hx hy).1).symm
theorem Rel.count (h : Rel s t N) : (allS s.pl).length = s.pl.length - s.back.length ∧ s.back.length ≤ s.pl.length := by
  have h1 : (allS s.pl).length = cntT s.pl := allF_cnt s.pl 0
  have h2 := h.cnt
  exact ⟨by omega, by omega⟩

theorem Rel.mono (h : Rel s t N) {M : Nat} (hM : N ≤ M) : Rel s t M := ⟨h.most, h.room, h.back, h.len, h.like, h.bk, h.once, h.cnt, Nat.le_trans h.few hM, fun x hx => Nat.le_trans (h.liv x hx) hM⟩

/-- a place turned alike in both -/
theorem like_set {l m : List (Int × Nat × Bool)} {i : Nat} {u v : Int × Nat × Bool} (h : ∀ (j : Nat) x y, l[j]? = some x → m[j]? = some y → x.2 = y.2 ∧ (x.2.2 = true → x.1 = y.1)) (hu : u.2 = v.2 ∧ (u.2.2 = true → u.1 = v.1)) :
    ∀ (j : Nat) x y, (l.set i u)[j]? = some x → (m.set i v)[j]? = some y → x.2 = y.2 ∧ (x.2.2 = true → x.1 = y.1) := by
  intro j x y hx hy
  by_cases c : i = j
  · subst c
    rw [List.getElem?_set] at hx hy
    simp only [if_true] at hx hy
    split at hx <;> split at hy <;> first | (exfalso; simp at hx; done) | (exfalso; simp at hy; done) | (cases hx; cases hy; exact hu)
  · rw [List.getElem?_set_ne c] at hx hy
    exact h j x y hx hy

theorem Rel.set (h : Rel s t N) (a g v : Int) : Rel (setS s a g v) (setS t a g v) N := by
  by_cases c : lookS s.pl a g = 0
  · obtain ⟨_, x, hx, _, _, ht⟩ := lookS_zero c
    obtain ⟨y, hy, e, _⟩ := h.other hx
    rw [setS_yes c hx, setS_yes (by rw [h.look]; exact c) hy]
    refine ⟨h.most, by simpa using h.room, h.back, by simpa using h.len, like_set h.like ⟨by rw [e], fun _ => rfl⟩, ?_, h.once, ?_, by simpa using h.few, ?_⟩
    · intro b hb
      obtain ⟨z, hz, hz2⟩ := h.bk b hb
      have hne : a.toNat ≠ b := fun e => by subst e; rw [hx] at hz; cases hz; rw [ht] at hz2; cases hz2
      exact ⟨z, by simp only [List.getElem?_set_ne hne]; exact hz, hz2⟩
    · have := cntT_set s.pl a.toNat x (v, x.2.1, true) hx
      have h2 := h.cnt
      rw [ht] at this
      simp only [List.length_set, Bool.toNat_true] at this ⊢
      omega
    · intro z hz
      rcases List.mem_or_eq_of_mem_set hz with q | q
      · exact h.liv z q
      · subst q; exact h.liv x (List.mem_of_getElem? hx)
  · rw [setS_no c, setS_no (by rw [h.look]; exact c)]
    exact h

theorem Rel.give (h : Rel s t N) (a g : Int) : Rel (giveS 0 s a g) (giveM t a g) N := by
  by_cases c : lookS s.pl a g = 0
  · obtain ⟨_, x, hx, _, _, ht⟩ := lookS_zero c
    obtain ⟨y, hy, e, _⟩ := h.other hx
    rw [giveS_yes c hx, giveM_yes (by rw [h.look]; exact c) hy]
    have hxl : a.toNat < s.pl.length := (List.getElem?_eq_some_iff.1 hx).1
    have hnb : a.toNat ∉ s.back := fun hm => by
      obtain ⟨z, hz, hz2⟩ := h.bk _ hm
      rw [hx] at hz; cases hz; rw [ht] at hz2; cases hz2
    refine ⟨h.most, by simpa using h.room, by rw [h.back], by simpa using h.len, like_set h.like ⟨by rw [e], fun q => by cases q⟩, ?_, ?_, ?_, by simpa using h.few, ?_⟩
    · intro b hb
      simp only [List.mem_append, List.mem_singleton] at hb
      rcases hb with hb | rfl
      · obtain ⟨z, hz, hz2⟩ := h.bk b hb
        have hne : a.toNat ≠ b := fun e => hnb (e ▸ hb)
        exact ⟨z, by simp only [List.getElem?_set_ne hne]; exact hz, hz2⟩
      · exact ⟨_, List.getElem?_set_self hxl, rfl⟩
    · simp only []
      rw [List.nodup_append]
      refine ⟨h.once, by simp, fun p hp q hq => ?_⟩
      simp at hq
      subst hq
      exact fun e => hnb (e ▸ hp)
    · have := cntT_set s.pl a.toNat x (0, x.2.1, false) hx
      have h2 := h.cnt
      rw [ht] at this
      simp only [List.length_set, List.length_append, List.length_cons, List.length_nil, Bool.toNat_true, Bool.toNat_false] at this ⊢
      omega
    · intro z hz
      rcases List.mem_or_eq_of_mem_set hz with q | q
      · exact h.liv z q
      · subst q; exact h.liv x (List.mem_of_getElem? hx)
  · rw [giveS_no c, giveM_no (by rw [h.look]; exact c)]
    exact h

theorem Rel.take (h : Rel s t N) (v : Int) : nextS (0 : Int) s = (⟨s.most, (nextS (0 : Int) s).1.pl, (nextS (0 : Int) s).1.back⟩, (nextS (0 : Int) s).2) ∧ (nextS (0 : Int) t).2 = (nextS (0 : Int) s).2 ∧ tookS (0 : Int) t = tookS (0 : Int) s ∧ Rel (takeS 0 v s) (takeS 0 v t) (N + 1) := by
  obtain ⟨m, pl, back⟩ := s
  obtain ⟨m2, pl2, back2⟩ := t
  have e1 := h.most
  have e2 := h.back
  have e3 := h.len
  simp only [] at e1 e2 e3
  subst e1 e2
  rcases snoc_or back with rfl | ⟨bk, a, rfl⟩
  · by_cases c : pl.length = m
    · have n1 := nextS_full (z := (0 : Int)) c
      have n2 := nextS_full (z := (0 : Int)) (m := m) (pl := pl2) (by rw [← e3]; exact c)
      refine ⟨by rw [n1], by rw [n1, n2], by unfold tookS; rw [n1, n2]; rfl, ?_⟩
      have t1 : takeS (0 : Int) v ⟨m, pl, []⟩ = ⟨m, pl, []⟩ := by unfold takeS; rw [n1]; rfl
      have t2 : takeS (0 : Int) v ⟨m, pl2, []⟩ = ⟨m, pl2, []⟩ := by unfold takeS; rw [n2]; rfl
      rw [t1, t2]
      exact h.mono (by omega)
    · have n1 := nextS_new (z := (0 : Int)) c
      have n2 := nextS_new (z := (0 : Int)) (m := m) (pl := pl2) (by rw [← e3]; exact c)
      have l1 : livS (⟨m, pl ++ [((0 : Int), 0, false)], []⟩ : St Int) pl.length = 0 := by simp [livS]
      have l2 : livS (⟨m, pl2 ++ [((0 : Int), 0, false)], []⟩ : St Int) pl2.length = 0 := by simp [livS]
      have t1 : takeS (0 : Int) v ⟨m, pl, []⟩ = ⟨m, pl ++ [(v, 1, true)], []⟩ := by
        unfold takeS; rw [n1]; simp only [if_true, l1]; rw [List.set_append_right _ _ (Nat.le_refl _)]; simp
      have t2 : takeS (0 : Int) v ⟨m, pl2, []⟩ = ⟨m, pl2 ++ [(v, 1, true)], []⟩ := by
        unfold takeS; rw [n2]; simp only [if_true, l2]; rw [List.set_append_right _ _ (Nat.le_refl _)]; simp
      refine ⟨by rw [n1], by rw [n1, n2, e3], by unfold tookS; rw [n1, n2]; simp only [if_true, l1, l2]; rw [e3], ?_⟩
      rw [t1, t2]
      have hr := h.room
      have hc := h.cnt
      have hf := h.few
      simp only [] at hr hc hf
      refine ⟨rfl, by simp; omega, rfl, by simp [e3], ?_, fun b hb => (by cases hb), List.nodup_nil, ?_, by simp; omega, ?_⟩
      · intro i x y hx hy
        by_cases ci : i < pl.length
        · rw [List.getElem?_append_left ci] at hx
          rw [List.getElem?_append_left (by omega)] at hy
          exact h.like i x y hx hy
        · have hi : i = pl.length := by
            have := (List.getElem?_eq_some_iff.1 hx).1
            simp at this; omega
          subst hi
          simp at hx
          rw [e3] at hy
          simp at hy
          rw [← hx, ← hy]
          exact ⟨rfl, fun _ => rfl⟩
      · simp only [cntT_append, cntT, List.length_append, List.length_cons, List.length_nil] at hc ⊢
        simp
        omega
      · intro x hx
        simp only [List.mem_append, List.mem_singleton] at hx
        rcases hx with hx | rfl
        · have := h.liv x hx; omega
        · simp
  · have n1 := nextS_back (z := (0 : Int)) (m := m) (pl := pl) (bk := bk) (a := a)
    have n2 := nextS_back (z := (0 : Int)) (m := m) (pl := pl2) (bk := bk) (a := a)
    obtain ⟨x, hx, hx2⟩ := h.bk a (by simp)
    obtain ⟨y, hy, e, _⟩ := h.other hx
    simp only [] at hx hy
    have l1 : livS (⟨m, pl, bk⟩ : St Int) a = x.2.1 := by unfold livS; simp only []; rw [hx]
    have l2 : livS (⟨m, pl2, bk⟩ : St Int) a = x.2.1 := by unfold livS; simp only []; rw [hy, e]
    have t1 : takeS (0 : Int) v ⟨m, pl, bk ++ [a]⟩ = ⟨m, pl.set a (v, x.2.1 + 1, true), bk⟩ := by unfold takeS; rw [n1]; simp [l1]
    have t2 : takeS (0 : Int) v ⟨m, pl2, bk ++ [a]⟩ = ⟨m, pl2.set a (v, x.2.1 + 1, true), bk⟩ := by unfold takeS; rw [n2]; simp [l2]
    refine ⟨by rw [n1], by rw [n1, n2], by unfold tookS; rw [n1, n2]; simp [l1, l2], ?_⟩
    rw [t1, t2]
    have hnd := h.once
    simp only [] at hnd
    rw [List.nodup_append] at hnd
    refine ⟨rfl, by simpa using h.room, rfl, by simpa using e3, like_set h.like ⟨rfl, fun _ => rfl⟩, ?_, hnd.1, ?_, by simp; have := h.few; simp only [] at this; omega, ?_⟩
    · intro b hb
      obtain ⟨z, hz, hz2⟩ := h.bk b (by simp [hb])
      have hne : a ≠ b := fun e => hnd.2.2 b hb a (by simp) e.symm
      exact ⟨z, by simp only [List.getElem?_set_ne hne]; exact hz, hz2⟩
    · have := cntT_set pl a x (v, x.2.1 + 1, true) hx
      have hc := h.cnt
      rw [hx2] at this
      simp at this hc ⊢
      omega
    · intro z hz
      rcases List.mem_or_eq_of_mem_set hz with q | q
      · have := h.liv z q; omega
      · subst q
        have := h.liv x (List.mem_of_getElem? hx)
        simp; omega
end
end Go.Proofs.Ytliabapopgeieaa
