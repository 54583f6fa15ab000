/- What ItemPlays keeps: entries of items, items and their nodes, as plain data. -/
import Derived.Test.YtonflgkfbhndbaaMn
namespace Go.Proofs.Ytonflgkfbhndbaa
open Go.ChangeShapes Go.WideShapes Go.ChangeAt Go.RowKit

/-- the first items have the entries of ml -/
def Ens (f : Nat → Nat → Int) (ml : List (Int × Int)) : Prop := ∀ c x, ml[c]? = some x → f c 7 = x.1 ∧ f c 8 = x.2
section
variable {f : Nat → Nat → Int} {ml : List (Int × Int)} {k : Nat}
theorem Ens.new (h : Ens f ml) (x : Int × Int) (hk : ml.length = k) : Ens (put (put (put0 f k) k 7 x.1) k 8 x.2) (ml ++ [x]) := by
  intro c y hy
  by_cases e : c = k
  · subst e
    rw [← hk] at hy
    simp at hy
    subst hy
    exact ⟨by rw [put_nj (by decide), put_at], put_at⟩
  · have hlt : c < (ml ++ [x]).length := (List.getElem?_eq_some_iff.1 hy).1
    simp at hlt
    rw [List.getElem?_append_left (by omega)] at hy
    rw [put_ne e, put_ne e, put0_ne e]
    exact h c y hy
theorem Ens.low (h : Ens f ml) {c : Nat} {x : Int × Int} (hx : ml[c]? = some x) (key : Int) : Ens (put f c 7 key) (ml.set c (key, x.2)) := by
  intro d y hy
  by_cases e : d = c
  · subst e
    rw [List.getElem?_set_self (List.getElem?_eq_some_iff.1 hx).1] at hy
    simp at hy
    subst hy
    exact ⟨put_at, by rw [put_nj (by decide)]; exact (h d x hx).2⟩
  · rw [List.getElem?_set_ne (fun q => e q.symm)] at hy
    rw [put_ne e]
    exact h d y hy
theorem Ens.take (h : Ens f ml) {m : Nat} (hm : ml.length ≤ m) : Ens (put0 f m) ml := by
  intro c y hy
  have hlt : c < ml.length := (List.getElem?_eq_some_iff.1 hy).1
  rw [put0_ne (by omega)]
  exact h c y hy
theorem Ens.put (h : Ens f ml) {c j : Nat} {v : Int} (h7 : 7 ≠ j) (h8 : 8 ≠ j) : Ens (put f c j v) ml := by
  intro d y hy
  rw [put_nj h7, put_nj h8]
  exact h d y hy
end

/-- the node k + j has the item al[j], and that has the node -/
def Lnk (f : Nat → Nat → Int) (k : Nat) (al : List Nat) : Prop := al.length = k ∧ ∀ j, j < k → ∃ a, al[j]? = some a ∧ a < k ∧ f (k + j) 6 = (a : Int) ∧ f a 9 = ((k + j : Nat) : Int)
/-- so are the first i, each with its own -/
def Frt (f : Nat → Nat → Int) (k i : Nat) (al : List Nat) : Prop := al.length = k ∧ ∀ j, j < i → al[j]? = some j ∧ f (k + j) 6 = (j : Int) ∧ f j 9 = ((k + j : Nat) : Int)
section
variable {f : Nat → Nat → Int} {al : List Nat} {k i : Nat}
theorem Frt.step (h : Frt f k i al) (hi : i < k) : Frt (put (put (put0 f (k + i)) (k + i) 6 (i : Int)) i 9 ((k + i : Nat) : Int)) k (i + 1) (al.set i i) := by
  refine ⟨by simpa using h.1, fun j hj => ?_⟩
  by_cases e : j = i
  · subst e
    refine ⟨List.getElem?_set_self (by rw [h.1]; exact hi), ?_, put_at⟩
    rw [put_ne (by omega), put_at]
  · obtain ⟨h1, h2, h3⟩ := h.2 j (by omega)
    refine ⟨by rw [List.getElem?_set_ne (fun q => e q.symm)]; exact h1, ?_, ?_⟩
    · rw [put_ne (by omega), put_ne (by omega), put0_ne (by omega)]; exact h2
    · rw [put_ne e, put_ne (by omega), put0_ne (by omega)]; exact h3
theorem Frt.full (h : Frt f k k al) : Lnk f k al := ⟨h.1, fun j hj => ⟨j, (h.2 j hj).1, hj, (h.2 j hj).2.1, (h.2 j hj).2.2⟩⟩
theorem Lnk.at (h : Lnk f k al) {j a : Nat} (hj : j < k) (ha : al[j]? = some a) : a < k ∧ f (k + j) 6 = (a : Int) ∧ f a 9 = ((k + j : Nat) : Int) := by
  obtain ⟨b, hb, q⟩ := h.2 j hj
  rw [ha] at hb
  injection hb with hb
  subst hb
  exact q
theorem Lnk.swap (h : Lnk f k al) {x y a b : Nat} (hx : x < k) (hy : y < k) (hne : x ≠ y) (ha : al[x]? = some a) (hb : al[y]? = some b) : Lnk (swp f (k + x) (k + y) a b) k ((al.set x b).set y a) := by
  obtain ⟨a1, a2, a3⟩ := h.at hx ha
  obtain ⟨b1, b2, b3⟩ := h.at hy hb
  have hab : a ≠ b := fun e => by rw [e] at a3; rw [a3] at b3; omega
  refine ⟨by simpa using h.1, fun j hj => ?_⟩
  unfold swp
  by_cases ey : j = y
  · subst ey
    refine ⟨a, List.getElem?_set_self (by simp [h.1]; exact hj), a1, ?_, put_at⟩
    rw [put_nj (by decide), put_at]
  · by_cases ex : j = x
    · subst ex
      refine ⟨b, by rw [List.getElem?_set_ne (fun q => ey q.symm), List.getElem?_set_self (by rw [h.1]; exact hj)], b1, ?_, ?_⟩
      · rw [put_nj (by decide), put_ne (by omega), put_nj (by decide), put_at]
      · rw [put_ne hab.symm, put_nj (by decide), put_at]
    · obtain ⟨c, c0, c1, c2, c3⟩ := h.2 j hj
      have hca : c ≠ a := fun e => by rw [e, a3] at c3; omega
      have hcb : c ≠ b := fun e => by rw [e, b3] at c3; omega
      refine ⟨c, by rw [List.getElem?_set_ne (fun q => ey q.symm), List.getElem?_set_ne (fun q => ex q.symm)]; exact c0, c1, ?_, ?_⟩
      · rw [put_nj (by decide), put_ne (by omega), put_nj (by decide), put_ne (by omega)]; exact c2
      · rw [put_ne hca, put_nj (by decide), put_ne hcb, put_nj (by decide)]; exact c3
end

theorem swapAt {w0 w : World} {F : Nat → Prop} {pa pm n k t x y a b : Nat} {f : Nat → Nat → Int} {ml : List (Int × Int)} {al : List Nat} (h : HoldA w0 w F pa pm (mk n (k + k) f t)) (hn : k + k ≤ n) (ht : t ≤ 700000) (hE : Ens f ml) (hL : Lnk f k al) (hx : x < k) (hy : y < k) (ha : al[x]? = some a) (hb : al[y]? = some b) :
    Calls Try.prog 16 #[.pointer (some ⟨pa, 0, none⟩), .int .i64 ((k + x : Nat) : Int), .int .i64 ((k + y : Nat) : Int)] w fun e w' => e = .returned (.tuple #[]) ∧ (∃ f' t', t ≤ t' ∧ t' ≤ t + 6 ∧ HoldA w0 w' F pa pm (mk n (k + k) f' t') ∧ Ens f' ml ∧ Lnk f' k ((al.set x b).set y a)) ∧ Kept F w w' := by
  by_cases e : x = y
  · subst e
    obtain rfl : a = b := by rw [ha] at hb; injection hb
    refine (swapI_same w).mono ?_
    rintro e w1 ⟨rfl, rfl⟩
    refine ⟨rfl, ⟨f, t, Nat.le_refl _, by omega, h, hE, ?_⟩, Kept.refl _ _⟩
    have : (al.set x a).set x a = al := by
      apply List.ext_getElem?
      intro j
      by_cases q : j = x
      · subst q
        rw [List.getElem?_set_self (by simp [hL.1]; exact hx), ha]
      · rw [List.getElem?_set_ne (fun z => q z.symm), List.getElem?_set_ne (fun z => q z.symm)]
    rw [this]
    exact hL
  · obtain ⟨a1, a2, a3⟩ := hL.at hx ha
    obtain ⟨b1, b2, b3⟩ := hL.at hy hb
    refine (swapI h ht (c := k + x) (d := k + y) (i := a) (j := b) (by omega) (by omega) (by omega) (by omega) (by omega) a2 b2 hn).mono ?_
    rintro e w1 ⟨rfl, h1, k1⟩
    refine ⟨rfl, ⟨_, t + 6, by omega, Nat.le_refl _, h1, ?_, hL.swap hx hy (by assumption) ha hb⟩, k1⟩
    unfold swp
    exact (((hE.put (by decide) (by decide)).put (by decide) (by decide)).put (by decide) (by decide)).put (by decide) (by decide)

/-- a slice of another type is appended to -/
theorem Mine.beside {w0 w w' : World} {F : Nat → Prop} {e1 e2 : TypeId} {s1 s2 n1 n2 : Nat} {v1 v2 : Value} {x1 x2 : List Value} {o : Obj} (h1 : Mine w0 w F e1 s1 v1 n1 x1) (h2 : Mine w0 w F e2 s2 v2 n2 x2) (he : e1 ≠ e2) (hg : (w.alloc o).grownBy w' v2.ownBlock) : Mine w0 w' F e1 s1 v1 n1 x1 :=
  (h1.plain ((Kept.refl _ _).alloc _)).other (kept_of_grown hg) fun i hi q => by
    rcases own_ne h1.own h2.own he with z | z
    · rw [z] at hi; cases hi
    · exact z (hi.trans q.symm)

section
variable {w0 w : World} {F : Nat → Prop} {g n cap : Nat}
theorem mine2_at {ml : List (Int × Int)} (h : Mine w0 w F 24 2 (.slice (some ⟨g, 0, none⟩) n cap) n (row ent2 ml)) (hn : ml.length = n) {i : Nat} {x : Int × Int} (hx : ml[i]? = some x) :
    w.cell? ⟨g, i * 2, none⟩ = some (.int .i64 x.1) ∧ w.cell? ⟨g, i * 2 + 1, none⟩ = some (.int .i64 x.2) ∧ w.frozen? ⟨g, i * 2, none⟩ = false := by
  have hi : i < ml.length := (List.getElem?_eq_some_iff.1 hx).1
  have a0 := h.own.cellAt (g := g) (cap := cap) (i * 2) (by omega)
  have a1 := h.own.cellAt (g := g) (cap := cap) (i * 2 + 1) (by omega)
  rw [show i * 2 = i * 2 + 0 from rfl, row_get ent2_len ml i 0 x hx (by decide)] at a0
  rw [row_get ent2_len ml i 1 x hx (by decide)] at a1
  exact ⟨a0, a1, h.own.frozenAt _⟩
theorem kept_set (w : World) (g o : Nat) (u : Value) : Kept (fun k => k = g) w (w.setCell ⟨g, o, none⟩ u) := (Kept.refl (fun k => k = g) w).setCell (p := ⟨g, o, none⟩) (Or.inl rfl) u
theorem Mine.set2 {ml : List (Int × Int)} (h : Mine w0 w F 24 2 (.slice (some ⟨g, 0, none⟩) n cap) n (row ent2 ml)) {i : Nat} {x : Int × Int} (hx : ml[i]? = some x) (v : Int) :
    Mine w0 (w.setCell ⟨g, i * 2, none⟩ (.int .i64 v)) F 24 2 (.slice (some ⟨g, 0, none⟩) n cap) n (row ent2 (ml.set i (v, x.2))) := by
  refine ⟨?_, h.out⟩
  have hs := (h.own.stored (i * 2 + 0) (.int .i64 v)).1
  rwa [row_set ent2_len ml i 0 x (v, x.2) (.int .i64 v) hx (by decide) rfl] at hs
theorem Mine.set1 {al : List Nat} (h : Mine w0 w F 3 1 (.slice (some ⟨g, 0, none⟩) n cap) n (row nat1 al)) {i x : Nat} (hx : al[i]? = some x) (v : Nat) :
    Mine w0 (w.setCell ⟨g, i, none⟩ (.int .i64 (v : Int))) F 3 1 (.slice (some ⟨g, 0, none⟩) n cap) n (row nat1 (al.set i v)) := by
  refine ⟨?_, h.out⟩
  have hs := (h.own.stored (i * 1 + 0) (.int .i64 (v : Int))).1
  rw [row_set nat1_len al i 0 x v (.int .i64 (v : Int)) hx (by decide) rfl] at hs
  simpa using hs
theorem HoldA.stored {pa pm : Nat} {z : St} (h : HoldA w0 w F pa pm z) (hg : ¬ F g ∧ w0.heap.size ≤ g) (o : Nat) (u : Value) : HoldA w0 (w.setCell ⟨g, o, none⟩ u) F pa pm z :=
  h.other (kept_set w g o u) (fun k hk => by rw [hk]; exact hg.2) (fun k hF hk => hg.1 (hk ▸ hF))
theorem Mine.stored {e : TypeId} {s m : Nat} {v : Value} {xs : List Value} (h : Mine w0 w F e s v m xs) (hg : v.ownBlock ≠ some g) (o : Nat) (u : Value) : Mine w0 (w.setCell ⟨g, o, none⟩ u) F e s v m xs :=
  h.other (kept_set w g o u) (fun k hk q => hg (by rw [hk, q]))
theorem Mine.apart {e1 e2 : TypeId} {s1 s2 n1 n2 : Nat} {v1 v2 : Value} {x1 x2 : List Value} (h1 : Mine w0 w F e1 s1 v1 n1 x1) (h2 : Mine w0 w F e2 s2 v2 n2 x2) (he : e1 ≠ e2) (hg : v2.ownBlock = some g) : v1.ownBlock ≠ some g := by
  intro q
  rcases own_ne h1.own h2.own he with z | z
  · rw [z] at q; cases q
  · exact z (q.trans hg.symm)
end

theorem Mine.grown {w0 w w' : World} {F : Nat → Prop} {e : TypeId} {s n : Nat} {v : Value} {xs : List Value} {o : Obj} {r : Option Nat} (h : Mine w0 w F e s v n xs) (hg : (w.alloc o).grownBy w' r) (hd : ∀ k, v.ownBlock = some k → r ≠ some k) : Mine w0 w' F e s v n xs :=
  (h.plain ((Kept.refl _ _).alloc _)).other (kept_of_grown hg) fun i hi q => hd i hi q
theorem Mine.own_ne {w0 w : World} {F : Nat → Prop} {e : TypeId} {s n : Nat} {v : Value} {xs : List Value} (h : Mine w0 w F e s v n xs) {g : Nat} (hg : w.heap.size ≤ g) : v.ownBlock ≠ some g := fun q => by have := h.lt g q; omega
theorem Mine.made {w0 w w' : World} {F : Nat → Prop} {n : Nat} {xs : List Value} {g cap : Nat} (ho : w'.ownsRow w.heap.size 3 1 (.slice (some ⟨g, 0, none⟩) n cap) n xs) (hF : ∀ k, F k → k < w.heap.size) (hB : w0.heap.size ≤ w.heap.size) : Mine w0 w' F 3 1 (.slice (some ⟨g, 0, none⟩) n cap) n xs := by
  refine ⟨?_, fun k hk => ?_⟩
  · refine ⟨ho.1, ?_⟩
    rcases ho.2 with h' | ⟨g, cap, cur, e, hb', r⟩
    · exact Or.inl h'
    · exact Or.inr ⟨g, cap, cur, e, Nat.zero_le _, r⟩
  · have := (ho.lt k hk).1
    exact ⟨fun q => by have := hF k q; omega, by omega⟩

theorem refBefore_kept (p q : Int × Int) (w : World) : Calls Try.prog 19 #[.agg #[.int .i64 p.1, .int .i64 p.2], .agg #[.int .i64 q.1, .int .i64 q.2]] w fun e w' => e = .returned (.bool (bef p.1 p.2 q.1 q.2)) ∧ Kept (fun _ => False) w w' :=
  (refBefore_any p.1 p.2 q.1 q.2 w).mono fun _ _ ⟨h1, c1, c2, h2⟩ => ⟨h1, by rw [h2]; exact plain2 w _ _⟩
theorem befI_of {f : Nat → Nat → Int} {x y : Nat} {p q : Int × Int} (hp : f x 7 = p.1 ∧ f x 8 = p.2) (hq : f y 7 = q.1 ∧ f y 8 = q.2) : befI f x y = (bef p.1 p.2 q.1 q.2 || (decide (p.1 = q.1 ∧ p.2 = q.2) && decide (x < y))) := by
  unfold befI
  rw [hp.1, hp.2, hq.1, hq.2]

theorem makeI (X : World) (n : Nat) (hn : n ≤ 1000) : ∃ w1, (Instr.makeSlice 26 (.int .i64 (n : Int)) (.int .i64 (n : Int))).run Try.prog X = .ok (.slice (some ⟨X.heap.size, 0, none⟩) n n) w1 ∧ w1.ownsRow X.heap.size 3 1 (.slice (some ⟨X.heap.size, 0, none⟩) n n) n (row nat1 (List.replicate n 0)) ∧ Kept (fun _ => False) X w1 := by
  obtain ⟨i, hi, h0, h1, h2⟩ := info_parts info3
  obtain ⟨w1, hr, ho, hg⟩ := run_make_full (P := Try.prog) (w := X) X.heap.size 26 3 i _ 1 Try.underlying26 hi h0 h1 .i64 .i64 n (by rw [h2]; omega) (by simp [maxLen]; omega) (Nat.le_refl _)
  refine ⟨w1, hr, ?_, hg.os, hg.tape, hg.output, hg.size, fun k hk _ => hg.block k hk (by simp)⟩
  rw [Nat.mul_one] at ho
  have e : (madeCells (Value.int .i64 0).cells n).toList = List.replicate n (.int .i64 0) := toList_madeCells_one _ n
  have e2 : row nat1 (List.replicate n 0) = List.replicate n (.int .i64 0) := by
    clear ho hr e
    induction n with
    | zero => rfl
    | succ n ih => rw [List.replicate_succ, List.replicate_succ, row, ih (by omega)]; rfl
  rw [e2]
  rwa [e] at ho
end Go.Proofs.Ytonflgkfbhndbaa
