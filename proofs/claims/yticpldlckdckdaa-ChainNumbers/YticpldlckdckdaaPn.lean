/- The plain side of play: which ring each cell is in. -/
import Derived.Test.YticpldlckdckdaaMn
namespace Go.Proofs.Yticpldlckdckdaa
open Go.ChangeShapes Go.WideShapes Go.ChangeAt Go.RowKit

theorem nodup_len : ∀ (n : Nat) (l : List Nat), l.Nodup → (∀ x ∈ l, x < n) → l.length ≤ n
  | 0, l, _, h => by
    cases l with
    | nil => simp
    | cons x r => exact absurd (h x (by simp)) (by omega)
  | n + 1, l, hd, h => by
    by_cases hn : n ∈ l
    · have h1 := nodup_len n (l.erase n) (hd.erase n) (fun x hx => by
        have h2 := h x (List.mem_of_mem_erase hx)
        have h3 : x ≠ n := fun e => by rw [e] at hx; exact (hd.mem_erase_iff.1 hx).1 rfl
        omega)
      rw [List.length_erase_of_mem hn] at h1
      omega
    · have := nodup_len n l hd (fun x hx => by have h2 := h x hx; have h3 : x ≠ n := fun e => hn (e ▸ hx); omega)
      omega

/-- which ring each of n cells is in -/
structure Rgs (n : Nat) (nx : Nat → Nat) (rg : Nat → List Nat) : Prop where
  rnd : ∀ k, k < n → Rnd nx (rg k)
  mem : ∀ k, k < n → k ∈ rg k
  lt : ∀ k, k < n → ∀ u ∈ rg k, u < n
  same : ∀ k, k < n → ∀ j ∈ rg k, rg j = rg k

/-- a list that begins with c, and has what the ring of c has -/
structure Tn (n : Nat) (nx : Nat → Nat) (rg : Nat → List Nat) (c : Nat) (tc : List Nat) : Prop where
  rnd : Rnd nx (c :: tc)
  iff : ∀ u, u ∈ c :: tc ↔ u ∈ rg c
  len : tc.length + 1 = (rg c).length
  le : tc.length + 1 ≤ n

section
variable {n : Nat} {nx pv : Nat → Nat} {rg : Nat → List Nat} {c d : Nat} {tc td : List Nat}
theorem Rgs.le (h : Rgs n nx rg) {k : Nat} (hk : k < n) : (rg k).length ≤ n := nodup_len n _ (h.rnd k hk).1 (h.lt k hk)
theorem Rgs.turn (h : Rgs n nx rg) (hc : c < n) : ∃ l1 l2, rg c = l1 ++ c :: l2 ∧ c ∉ l1 ∧ Tn n nx rg c (l2 ++ l1) := by
  obtain ⟨l1, l2, e⟩ := List.append_of_mem (h.mem c hc)
  have hr := h.rnd c hc
  have hl := h.le hc
  have hn := hr.1
  rw [e] at hr hn hl
  refine ⟨l1, l2, e, fun q => ?_, ?_, fun u => ?_, ?_, ?_⟩
  · rw [List.nodup_append] at hn; exact hn.2.2 c q c (by simp) rfl
  · simpa using hr.turn
  · rw [e]; simp; exact ⟨fun q => by rcases q with q | q | q <;> simp [q], fun q => by rcases q with q | q | q <;> simp [q]⟩
  · rw [e]; simp; omega
  · simp at hl ⊢; omega
theorem Tn.mem_lt (h : Rgs n nx rg) (hc : c < n) (t : Tn n nx rg c tc) : ∀ u ∈ c :: tc, u < n := fun u hu => h.lt c hc u ((t.iff u).1 hu)
/-- a ring that has one of another in it is that one -/
theorem Rgs.meet (h : Rgs n nx rg) {k j : Nat} (hk : k < n) (hc : c < n) (h1 : j ∈ rg k) (h2 : j ∈ rg c) : k ∈ rg c := by
  rw [← h.same c hc j h2, h.same k hk j h1]
  exact h.mem k hk
theorem Rgs.join (hI : Inv n nx pv) (h : Rgs n nx rg) (hc : c < n) (hd : d < n) (hap : d ∉ rg c) (t1 : Tn n nx rg c tc) (t2 : Tn n nx rg d td) :
    Rgs n (swN nx pv c d) (fun k => if k ∈ c :: (d :: td) ++ tc then c :: (d :: td) ++ tc else rg k) ∧ ∀ u ∈ c :: (d :: td) ++ tc, u < n := by
  have hm : ∀ u, u ∈ c :: (d :: td) ++ tc ↔ u ∈ rg c ∨ u ∈ rg d := fun u => by
    rw [← t1.iff u, ← t2.iff u]; simp
    exact ⟨fun q => by rcases q with q | q | q | q <;> simp [q], fun q => by rcases q with (q | q) | q | q <;> simp [q]⟩
  have hlt : ∀ u ∈ c :: (d :: td) ++ tc, u < n := fun u hu => ((hm u).1 hu).elim (h.lt c hc u) (h.lt d hd u)
  have hj := Rnd.join hI (fun u hu => Tn.mem_lt h hd t2 u hu) t1.rnd t2.rnd (fun u hu hu' => by
    have q1 := (t1.iff u).1 hu
    have q2 := (t2.iff u).1 hu'
    exact hap (h.meet hd hc q2 q1))
  refine ⟨⟨fun k hk => ?_, fun k hk => ?_, fun k hk u hu => ?_, fun k hk j hj' => ?_⟩, hlt⟩
  · by_cases q : k ∈ c :: (d :: td) ++ tc
    · simp only [if_pos q]; exact hj
    · simp only [if_neg q]
      refine Rnd.other hI hd (h.rnd k hk) (fun e => q ((hm k).2 (Or.inl ?_))) (fun e => q ((hm k).2 (Or.inr ?_)))
      · exact h.meet hk hc e (h.mem c hc)
      · exact h.meet hk hd e (h.mem d hd)
  · by_cases q : k ∈ c :: (d :: td) ++ tc
    · simp only [if_pos q]; exact q
    · simp only [if_neg q]; exact h.mem k hk
  · by_cases q : k ∈ c :: (d :: td) ++ tc
    · simp only [if_pos q] at hu; exact hlt u hu
    · simp only [if_neg q] at hu; exact h.lt k hk u hu
  · by_cases q : k ∈ c :: (d :: td) ++ tc
    · simp only [if_pos q] at hj' ⊢; rw [if_pos hj']
    · simp only [if_neg q] at hj' ⊢
      have : j ∉ c :: (d :: td) ++ tc := fun e => q ((hm k).2 (((hm j).1 e).imp (fun e => h.meet hk hc hj' e) (fun e => h.meet hk hd hj' e)))
      rw [if_neg this]; exact h.same k hk j hj'
theorem Rgs.out (hI : Inv n nx pv) (h : Rgs n nx rg) (hc : c < n) (t1 : Tn n nx rg c tc) :
    Rgs n (swN nx pv c c) (fun k => if k ∈ tc then tc else if k = c then [c] else rg k) ∧ ∀ u ∈ tc, u < n := by
  have hct : c ∉ tc := (List.nodup_cons.1 t1.rnd.1).1
  have hlt : ∀ u ∈ c :: tc, u < n := Tn.mem_lt h hc t1
  have hm : ∀ u, u ∈ rg c ↔ u = c ∨ u ∈ tc := fun u => by rw [← t1.iff u]; simp
  have ho : (tc ≠ [] → Rnd (swN nx pv c c) tc) ∧ Rnd (swN nx pv c c) [c] := by
    cases tc with
    | nil =>
      have := t1.rnd.alone
      rw [Rnd.out1 hI hc this]
      exact ⟨fun q => absurd rfl q, Rnd.one this⟩
    | cons y t => have := Rnd.out hI hlt t1.rnd; exact ⟨fun _ => this.1, this.2⟩
  refine ⟨⟨fun k hk => ?_, fun k hk => ?_, fun k hk u hu => ?_, fun k hk j hj' => ?_⟩, fun u hu => hlt u (by simp [hu])⟩
  · by_cases q : k ∈ tc
    · simp only [if_pos q]; exact ho.1 (fun e => by rw [e] at q; cases q)
    · simp only [if_neg q]
      by_cases q' : k = c
      · simp only [if_pos q']; exact ho.2
      · simp only [if_neg q']
        have : c ∉ rg k := fun e => by
          have := (hm k).1 (h.meet hk hc e (h.mem c hc))
          rcases this with z | z
          · exact q' z
          · exact q z
        exact Rnd.other hI hc (h.rnd k hk) this this
  · by_cases q : k ∈ tc
    · simp only [if_pos q]; exact q
    · simp only [if_neg q]
      by_cases q' : k = c
      · simp [q']
      · simp only [if_neg q']; exact h.mem k hk
  · by_cases q : k ∈ tc
    · simp only [if_pos q] at hu; exact hlt u (by simp [hu])
    · simp only [if_neg q] at hu
      by_cases q' : k = c
      · simp only [if_pos q'] at hu; exact hlt u (by simp at hu; simp [hu])
      · simp only [if_neg q'] at hu; exact h.lt k hk u hu
  · by_cases q : k ∈ tc
    · simp only [if_pos q] at hj' ⊢; rw [if_pos hj']
    · simp only [if_neg q] at hj' ⊢
      by_cases q' : k = c
      · simp only [if_pos q'] at hj' ⊢
        have e : j = c := by simpa using hj'
        subst e
        rw [if_neg hct, if_pos rfl]
      · simp only [if_neg q'] at hj' ⊢
        have hk' : k ∉ rg c := fun e => ((hm k).1 e).elim q' q
        have n1 : j ∉ tc := fun e => hk' (h.meet hk hc hj' ((hm j).2 (Or.inr e)))
        have n2 : j ≠ c := fun e => hk' (h.meet hk hc hj' ((hm j).2 (Or.inl e)))
        rw [if_neg n1, if_neg n2]; exact h.same k hk j hj'
theorem Rgs.start (n : Nat) : Rgs n id (fun k => [k]) :=
  ⟨fun k _ => Rnd.one rfl, fun k _ => by simp, fun k hk u hu => by simp at hu; omega, fun k _ j hj => by simp at hj; rw [hj]⟩
/-- alone or not -/
theorem Rgs.alone (h : Rgs n nx rg) {k : Nat} (hk : k < n) : nx k = k ↔ (rg k).length = 1 := by
  obtain ⟨l1, l2, e, _, t⟩ := h.turn hk
  rw [← t.len]
  cases ht : l2 ++ l1 with
  | nil =>
    have := t.rnd
    rw [ht] at this
    simp [this.alone]
  | cons y r =>
    have := t.rnd
    rw [ht] at this
    have := this.more
    simp [this.1, this.2]
end
end Go.Proofs.Yticpldlckdckdaa
