/- Two slices that are appended to in one statement whose order is drawn: whatever comes up first, the end is the same. -/
import Derived.Test.YtokmefgdbklepaaTill
namespace Go.Proofs.Ytokmefgdbklepaa
open Go.ChangeShapes Go.WideShapes Go.ChangeAt Go.RowKit

theorem op_run {P : Program} {ops : Array Oper} {Q : Exit → Act → World → Prop} {i : Nat} {o : Oper} {K : Act → World → Prop} {a : Act} {w w' : World} {v : Value} (hi : ops[i]? = some o) (hg : o.guard = none) (hr : (execOp a.eval o).run P w = .ok (.value v) w') (h : K (a.put o.dst v) w') : wpOp P ops Q i K a w := by
  have hw : Region.wanted o (yielded ops a.tmps) = true := by simp [Region.wanted, hg]
  unfold wpOp
  simp only [hi, hw, if_true, Oper.wp, hr, Oper.upon]
  exact .inl h

/-- one slice: what it holds, what is laid ahead, what it holds then -/
structure Ch where
  t : TypeId
  e : TypeId
  ti : TypeInfo
  z : Value
  by' : Nat
  u : Value
  v : Value
  n : Nat
  xs : List Value
  ht : Try.prog.underlying t = some (.slice e)
  hi : Try.prog.info? e = some ti
  hz : ti.zero = some z
  hs : ti.size = 1
  hb : ti.bytes = by'
  hzs : z.cells.size = 1
  hu : u.oneCell' = true
  hn : n + 1 ≤ 1000000
  hby : by' ≤ 100

/-- how far a slice has come -/
def Ch.at' (c : Ch) (X w : World) (b d : Bool) (x y : Value) : Prop :=
  if d = true then ∃ g cap, y = .slice (some ⟨g, 0, none⟩) (c.n + 1) cap ∧ w.ownsRow 0 c.e 1 y (c.n + 1) (c.xs ++ [c.u]) ∧ (c.v.ownBlock = some g ∨ X.heap.size ≤ g)
  else w.ownsRow 0 c.e 1 c.v c.n c.xs ∧ (b = true → ∃ B, x = .slice (some ⟨B, 0, none⟩) 1 1 ∧ X.heap.size ≤ B ∧ w.heap[B]? = some (.cells #[c.u] c.e))

theorem Ch.alloc {c : Ch} {X w : World} {b d : Bool} {x y : Value} (h : c.at' X w b d x y) (o : Obj) : c.at' X (w.alloc o) b d x y := by
  unfold Ch.at' at *
  split
  · rename_i hd
    rw [if_pos hd] at h
    obtain ⟨g, cap, h1, h2, h3⟩ := h
    exact ⟨g, cap, h1, h2.alloc o, h3⟩
  · rename_i hd
    rw [if_neg hd] at h
    refine ⟨h.1.alloc o, fun hb => ?_⟩
    obtain ⟨B, h1, h2, h3⟩ := h.2 hb
    exact ⟨B, h1, h2, (Below.heap_alloc w o B (lt_of_block h3)).trans h3⟩

theorem Ch.other {c c2 : Ch} {X w w' : World} {b d : Bool} {x y : Value} (h : c.at' X w b d x y) (h2 : w.ownsRow 0 c2.e 1 c2.v c2.n c2.xs) (hX : X.ownsRow 0 c2.e 1 c2.v c2.n c2.xs) (hg : w.grownBy w' c2.v.ownBlock) (he : c.e ≠ c2.e) : c.at' X w' b d x y := by
  unfold Ch.at' at *
  split
  · rename_i hd
    rw [if_pos hd] at h
    obtain ⟨g, cap, h1, h3, h4⟩ := h
    exact ⟨g, cap, h1, h3.kept hg (own_ne h3 h2 he), h4⟩
  · rename_i hd
    rw [if_neg hd] at h
    refine ⟨h.1.kept hg (own_ne h.1 h2 he), fun hb => ?_⟩
    obtain ⟨B, h1, h3, h4⟩ := h.2 hb
    refine ⟨B, h1, h3, (hg.block B (lt_of_block h4) fun e => ?_).trans h4⟩
    have := (hX.lt B e.symm).2
    omega

/-- appending -/
theorem Ch.push {c : Ch} {X w : World} {x y : Value} (h : c.at' X w true false x y) (ty : TypeId) (hk : X.heap.size ≤ w.heap.size) :
    ∃ y' w', (Builtin.append_ #[c.t, c.t] ty #[c.v, x]).run Try.prog w = .ok y' w' ∧ c.at' X w' true true x y' ∧ w.grownBy w' c.v.ownBlock ∧ w.ownsRow 0 c.e 1 c.v c.n c.xs := by
  unfold Ch.at' at h
  rw [if_neg (by decide)] at h
  obtain ⟨h1, h2⟩ := h
  obtain ⟨B, rfl, h3, h4⟩ := h2 rfl
  have hby := c.hby
  have hn := c.hn
  have hbb : (c.n + 1) * c.by' ≤ 1000000 * 100 := Nat.mul_le_mul hn hby
  obtain ⟨g, cap, w', hr, q1, q2, q3, _⟩ := run_append_lies (P := Try.prog) w c.t ty 0 c.e c.ti c.z 1 c.by' c.ht c.hi c.hz c.hs c.hb c.hzs (by decide) c.v c.n c.xs h1 ⟨B, 0, none⟩ 1 1 [c.u] rfl (World.news_of_block h4) (by intro u hu; simp at hu; subst hu; exact c.hu) (by decide) (by simp only [maxLen]; omega) (by omega) (Nat.zero_le _) w.heap.size rfl
  refine ⟨_, w', hr, ?_, q2, h1⟩
  unfold Ch.at'
  rw [if_pos rfl]
  exact ⟨g, cap, rfl, q1, q3.imp id fun e => by rw [e]; exact hk⟩

/-- what has come up of twenty operations -/
def L4 (b1 b2 d1 d2 : Bool) : Array Bool := #[true, true, true, true, true, true, b1, d1, true, true, true, true, b2, d2, false, false, false, false, false, false]

section
variable {ops : Array Oper} {Q : Exit → Act → World → Prop} {S : World → Prop} {X : World} {c1 c2 : Ch} {A : Value → Value → Value → Value → Act} {g : Nat}

/-- rows that may turn -/
def R2 (c1 c2 : Ch) : Nat → Prop := fun k => c1.v.ownBlock = some k ∨ c2.v.ownBlock = some k

structure Duo (ops : Array Oper) (c1 c2 : Ch) (A : Value → Value → Value → Value → Act) (X : World) : Prop where
  e12 : c1.e ≠ c2.e
  o1 : X.ownsRow 0 c1.e 1 c1.v c1.n c1.xs
  o2 : X.ownsRow 0 c2.e 1 c2.v c2.n c2.xs
  b1 : ∀ x1 x2 y1 y2 (w : World), ∃ o, ops[6]? = some o ∧ o.guard = none ∧ (execOp (A x1 x2 y1 y2).eval o).run Try.prog w = .ok (.value (.slice (some ⟨w.heap.size, 0, none⟩) 1 1)) (w.alloc (.cells #[c1.u] c1.e)) ∧ ∀ z, (A x1 x2 y1 y2).put o.dst z = A z x2 y1 y2
  b2 : ∀ x1 x2 y1 y2 (w : World), ∃ o, ops[12]? = some o ∧ o.guard = none ∧ (execOp (A x1 x2 y1 y2).eval o).run Try.prog w = .ok (.value (.slice (some ⟨w.heap.size, 0, none⟩) 1 1)) (w.alloc (.cells #[c2.u] c2.e)) ∧ ∀ z, (A x1 x2 y1 y2).put o.dst z = A x1 z y1 y2
  a1 : ∀ x1 x2 y1 y2, ∃ o ty, ops[7]? = some o ∧ o.guard = none ∧ (∀ w y' w', (Builtin.append_ #[c1.t, c1.t] ty #[c1.v, x1]).run Try.prog w = .ok y' w' → (execOp (A x1 x2 y1 y2).eval o).run Try.prog w = .ok (.value y') w') ∧ ∀ z, (A x1 x2 y1 y2).put o.dst z = A x1 x2 z y2
  a2 : ∀ x1 x2 y1 y2, ∃ o ty, ops[13]? = some o ∧ o.guard = none ∧ (∀ w y' w', (Builtin.append_ #[c2.t, c2.t] ty #[c2.v, x2]).run Try.prog w = .ok y' w' → (execOp (A x1 x2 y1 y2).eval o).run Try.prog w = .ok (.value y') w') ∧ ∀ z, (A x1 x2 y1 y2).put o.dst z = A x1 x2 y1 z
  rdy : ∀ b1 b2 d1 d2 : Bool, (d1 = true → b1 = true) → (d2 = true → b2 = true ∧ d1 = true) → d2 = false →
    Region.ready .any ops (L4 b1 b2 d1 d2) = (if b1 = false then [6] else if d1 = false then [7] else []) ++ (if b2 = false then [12] else if d1 = true ∧ d2 = false then [13] else [])

/-- all that is true where some have come up -/
structure DuoAt (c1 c2 : Ch) (A : Value → Value → Value → Value → Act) (X : World) (b1 b2 d1 d2 : Bool) (a : Act) (w : World) (x1 x2 y1 y2 : Value) : Prop where
  fr : a = A x1 x2 y1 y2
  k1 : c1.at' X w b1 d1 x1 y1
  k2 : c2.at' X w b2 d2 x2 y2
  kp : Kept (R2 c1 c2) X w

theorem at_new {c : Ch} {X w : World} {x y z : Value} (h : c.at' X w false false x y) (hk : X.heap.size ≤ w.heap.size) : c.at' X (w.alloc (.cells #[c.u] c.e)) true false (.slice (some ⟨w.heap.size, 0, none⟩) 1 1) z := by
  unfold Ch.at' at *
  rw [if_neg (by decide)] at *
  exact ⟨h.1.alloc _, fun _ => ⟨_, rfl, hk, heap_alloc_new w _⟩⟩
theorem at_any {c : Ch} {X w : World} {b : Bool} {x y z : Value} (h : c.at' X w b false x y) : c.at' X w b false x z := by
  unfold Ch.at' at *
  rw [if_neg (by decide)] at *
  exact h

theorem duo_walk (T : Duo ops c1 c2 A X) (hS : ∀ w', Kept (R2 c1 c2) X w' → S w')
    (hend : ∀ x1 x2 y1 y2 a w, DuoAt c1 c2 A X true true true true a w x1 x2 y1 y2 → wpTill Try.prog .any ops Q S 14 g (L4 true true true true) a w) :
    ∀ (m : Nat) (b1 b2 d1 d2 : Bool), (d1 = true → b1 = true) → (d2 = true → b2 = true ∧ d1 = true) → (!b1).toNat + (!b2).toNat + (!d1).toNat + (!d2).toNat = m →
      ∀ a w x1 x2 y1 y2, DuoAt c1 c2 A X b1 b2 d1 d2 a w x1 x2 y1 y2 → wpTill Try.prog .any ops Q S 14 (m + g) (L4 b1 b2 d1 d2) a w := by
  intro m
  induction m with
  | zero =>
    intro b1 b2 d1 d2 v1 v2 hm a w x1 x2 y1 y2 h
    rw [Nat.zero_add]
    cases b1 <;> cases b2 <;> cases d1 <;> cases d2 <;> first | (simp at hm; done) | exact hend _ _ _ _ _ _ h
  | succ m ih =>
    intro b1 b2 d1 d2 v1 v2 hm a w x1 x2 y1 y2 h
    have hd2 : d2 = false := by
      cases q : d2 with
      | false => rfl
      | true =>
        obtain ⟨q1, q2⟩ := v2 q
        have q5 := v1 q2
        rw [q, q1, q2, q5] at hm
        simp at hm
    rw [show m + 1 + g = (m + g) + 1 by omega]
    have hrd := T.rdy b1 b2 d1 d2 v1 v2 hd2
    have hstep : ∀ i ∈ Region.ready .any ops (L4 b1 b2 d1 d2), (i = 6 ∧ b1 = false) ∨ (i = 7 ∧ b1 = true ∧ d1 = false) ∨ (i = 12 ∧ b2 = false) ∨ (i = 13 ∧ b2 = true ∧ d1 = true ∧ d2 = false) := by
      intro i hi
      rw [hrd] at hi
      cases b1 <;> cases b2 <;> cases d1 <;> simp at hi ⊢ <;> (try rw [hd2]) <;> (try simp) <;> omega
    refine ⟨fun h0 => ?_, fun i hi => ?_⟩
    · exfalso
      rw [hrd] at h0
      cases b1 <;> cases b2 <;> cases d1 <;> simp [hd2] at h0
    rcases hstep i hi with ⟨hi, q⟩ | ⟨hi, qb, qd⟩ | ⟨hi, q⟩ | ⟨hi, qb, qp, qd⟩
    · subst hi
      obtain ⟨o, ho, hg, hr, hp⟩ := T.b1 x1 x2 y1 y2 w
      rw [h.fr]
      refine op_run ho hg hr ?_
      rw [hp]
      have hd : d1 = false := by cases hd : d1 with
        | false => rfl
        | true => have := v1 hd; rw [q] at this; cases this
      have hn : DuoAt c1 c2 A X true b2 d1 d2 _ _ (.slice (some ⟨w.heap.size, 0, none⟩) 1 1) x2 y1 y2 := ⟨rfl, (by have q1 := h.k1; rw [q, hd] at q1; rw [hd]; exact at_new q1 h.kp.size), Ch.alloc h.k2 _, h.kp.alloc _⟩
      have hl : (L4 b1 b2 d1 d2).setIfInBounds 6 true = L4 true b2 d1 d2 := rfl
      rw [hl]
      exact ⟨fun _ => hS _ hn.kp, ih true b2 d1 d2 (fun _ => rfl) v2 (by rw [q] at hm; simp at hm ⊢; omega) _ _ _ _ _ _ hn⟩
    · subst hi
      obtain ⟨o, ty, ho, hg, hr, hp⟩ := T.a1 x1 x2 y1 y2
      have hkk := h.k1
      rw [qb, qd] at hkk
      obtain ⟨y', w', hrun, hat, hgr, hown⟩ := Ch.push hkk ty h.kp.size
      rw [h.fr]
      refine op_run ho hg (hr _ _ _ hrun) ?_
      rw [hp]
      have hn : DuoAt c1 c2 A X b1 b2 true d2 _ _ x1 x2 y' y2 := ⟨rfl, (by rw [qb]; exact hat), Ch.other h.k2 hown T.o1 hgr (T.e12.symm), h.kp.grown hgr (fun k hk => Or.inl (Or.inl hk))⟩
      have hl : (L4 b1 b2 d1 d2).setIfInBounds 7 true = L4 b1 b2 true d2 := rfl
      rw [hl]
      exact ⟨fun _ => hS _ hn.kp, ih b1 b2 true d2 (fun _ => qb) (fun e => ⟨(v2 e).1, rfl⟩) (by rw [qd] at hm; simp at hm ⊢; omega) _ _ _ _ _ _ hn⟩
    · subst hi
      obtain ⟨o, ho, hg, hr, hp⟩ := T.b2 x1 x2 y1 y2 w
      rw [h.fr]
      refine op_run ho hg hr ?_
      rw [hp]
      have hd : d2 = false := hd2
      have hn : DuoAt c1 c2 A X b1 true d1 d2 _ _ x1 (.slice (some ⟨w.heap.size, 0, none⟩) 1 1) y1 y2 := ⟨rfl, Ch.alloc h.k1 _, (by have q1 := h.k2; rw [q, hd] at q1; rw [hd]; exact at_new q1 h.kp.size), h.kp.alloc _⟩
      have hl : (L4 b1 b2 d1 d2).setIfInBounds 12 true = L4 b1 true d1 d2 := rfl
      rw [hl]
      exact ⟨fun _ => hS _ hn.kp, ih b1 true d1 d2 v1 (fun e => ⟨rfl, (v2 e).2⟩) (by rw [q] at hm; simp at hm ⊢; omega) _ _ _ _ _ _ hn⟩
    · subst hi
      obtain ⟨o, ty, ho, hg, hr, hp⟩ := T.a2 x1 x2 y1 y2
      have hkk := h.k2
      rw [qb, qd] at hkk
      obtain ⟨y', w', hrun, hat, hgr, hown⟩ := Ch.push hkk ty h.kp.size
      rw [h.fr]
      refine op_run ho hg (hr _ _ _ hrun) ?_
      rw [hp]
      have hn : DuoAt c1 c2 A X b1 b2 d1 true _ _ x1 x2 y1 y' := ⟨rfl, Ch.other h.k1 hown T.o2 hgr (T.e12), (by rw [qb]; exact hat), h.kp.grown hgr (fun k hk => Or.inl (Or.inr hk))⟩
      have hl : (L4 b1 b2 d1 d2).setIfInBounds 13 true = L4 b1 b2 d1 true := rfl
      rw [hl]
      exact ⟨fun _ => hS _ hn.kp, ih b1 b2 d1 true v1 (fun _ => ⟨qb, qp⟩) (by rw [qd] at hm; simp at hm ⊢; omega) _ _ _ _ _ _ hn⟩
end
end Go.Proofs.Ytokmefgdbklepaa
