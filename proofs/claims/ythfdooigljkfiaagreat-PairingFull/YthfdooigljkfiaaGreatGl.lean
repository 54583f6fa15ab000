/- Several texts in one. -/
import Derived.Test.YthfdooigljkfiaaGreatGh
/- Heaps of nothing. -/
namespace Go.Proofs.YthfdooigljkfiaaGreat
open Go.ChangeShapes Go.WideShapes Go.ChangeAt Go.RowKit
open Tr

/-- a heap of nothing is None -/
theorem Sit.none1 {w0 : Fm} {w : World} {pw N K : Nat} {L0 : List (Nat × Int × Int)} {nx : Int} (h : Sit w0 w pw N K L0 [] nx) : w.cell? ⟨pw, 2, none⟩ = some (.int .i64 (-1)) := by
  obtain ⟨F, pa, pm, v0, v1, s, t, u, sp, mo, hw, hi, hk, hm⟩ := h
  obtain ⟨_, _, c2, _⟩ := hw.cells
  have := hi.b.none.2 rfl
  subst this
  exact c2
theorem Sit.none0 {w0 : Fm} {w : World} {pw N K : Nat} {L1 : List (Nat × Int × Int)} {nx : Int} (h : Sit w0 w pw N K [] L1 nx) : w.cell? ⟨pw, 1, none⟩ = some (.int .i64 (-1)) := by
  obtain ⟨F, pa, pm, v0, v1, s, t, u, sp, mo, hw, hi, hk, hm⟩ := h
  obtain ⟨_, c1, _⟩ := hw.cells
  have := hi.a.none.2 rfl
  subst this
  exact c1
theorem popL_le (L : List (Nat × Int × Int)) : (popL L).length ≤ L.length := by
  by_cases h : L = []
  · subst h; exact Nat.le_refl _
  · rw [popL_len h]; omega

end Go.Proofs.YthfdooigljkfiaaGreat

/- Within, told; which of a list it tells. -/
namespace Go.Proofs.YthfdooigljkfiaaGreat
open Go.ChangeShapes Go.WideShapes Go.ChangeAt Go.RowKit

/-- Within, told -/
def winI (n lo hi : Int) : Int := if lo ≤ n ∧ n ≤ hi then n else if n.tmod (hi - lo + 1) < 0 then lo + (n.tmod (hi - lo + 1) + hi - lo + 1) else lo + n.tmod (hi - lo + 1)
theorem winI_le (n lo hi : Int) (h : lo ≤ hi) : lo ≤ winI n lo hi ∧ winI n lo hi ≤ hi := by
  obtain ⟨t1, t2⟩ := tmod_bounds n (k := hi - lo + 1) (by omega)
  unfold winI
  split
  · assumption
  · split <;> omega
set_option maxHeartbeats 1000000 in
theorem within_eq (n : Int) (hn : I64 n) (hi : Int) (hlh : 0 ≤ hi) (hh : hi ≤ 1000) (w : World) :
    Calls Tryz.prog 18 #[.int .i64 n, .int .i64 0, .int .i64 hi] w fun e w' => e = .returned (.int .i64 (winI n 0 hi)) ∧ w' = w := by
  obtain ⟨h1, h2⟩ := hn
  by_cases c1 : 0 ≤ n
  · by_cases c2 : n ≤ hi
    · have E := hid (show winI n 0 hi = n by unfold winI; rw [if_pos ⟨c1, c2⟩])
      go_enter Tryz.func18, Tryz.ntmps18
      go_wp2
      go_ret
      exact ⟨ret_int E.out.symm, rfl⟩
    · have hwd : IntKind.i64.wrap (hi + 1) = hi + 1 := IntWalk.i64_in _ (by omega)
      have hne : ¬ (hi + 1 = 0) := by omega
      obtain ⟨t1, t2⟩ := tmod_bounds n (k := hi + 1) (by omega)
      have c2' : decide (n ≤ hi) = false := by simp; omega
      have E := hid (show winI n 0 hi = if n.tmod (hi + 1) < 0 then n.tmod (hi + 1) + hi + 1 else n.tmod (hi + 1) by unfold winI; rw [if_neg (by omega)]; simp)
      obtain ⟨t, ht⟩ : ∃ t : Int, n.tmod (hi + 1) = t := ⟨_, rfl⟩
      rw [ht] at t1 t2 E
      by_cases c3 : t < 0
      · go_enter Tryz.func18, Tryz.ntmps18
        go_wp2
        go_ret
        exact ⟨ret_int (by rw [E.out, if_pos c3]), rfl⟩
      · have c3' : decide (t < 0) = false := by simp; omega
        go_enter Tryz.func18, Tryz.ntmps18
        go_wp2
        go_ret
        exact ⟨ret_int (by rw [E.out, if_neg (by omega)]), rfl⟩
  · have hwd : IntKind.i64.wrap (hi + 1) = hi + 1 := IntWalk.i64_in _ (by omega)
    have hne : ¬ (hi + 1 = 0) := by omega
    obtain ⟨t1, t2⟩ := tmod_bounds n (k := hi + 1) (by omega)
    have c1' : decide (0 ≤ n) = false := by simp; omega
    have E := hid (show winI n 0 hi = if n.tmod (hi + 1) < 0 then n.tmod (hi + 1) + hi + 1 else n.tmod (hi + 1) by unfold winI; rw [if_neg (by omega)]; simp)
    obtain ⟨t, ht⟩ : ∃ t : Int, n.tmod (hi + 1) = t := ⟨_, rfl⟩
    rw [ht] at t1 t2 E
    by_cases c3 : t < 0
    · go_enter Tryz.func18, Tryz.ntmps18
      go_wp2
      go_ret
      exact ⟨ret_int (by rw [E.out, if_pos c3]), rfl⟩
    · have c3' : decide (t < 0) = false := by simp; omega
      go_enter Tryz.func18, Tryz.ntmps18
      go_wp2
      go_ret
      exact ⟨ret_int (by rw [E.out, if_neg (by omega)]), rfl⟩


/-- which one of so many -/
def winN (n : Int) (len : Nat) : Nat := (winI n 0 ((len : Int) - 1)).toNat
theorem winN_lt (n : Int) {len : Nat} (h : 0 < len) : winN n len < len ∧ winI n 0 ((len : Int) - 1) = (winN n len : Int) := by
  have := winI_le n 0 ((len : Int) - 1) (by omega)
  unfold winN
  omega
/-- a list without that one -/
def cutL (n : Int) (L : List (Nat × Int × Int)) : List (Nat × Int × Int) := L.take (winN n L.length) ++ L.drop (winN n L.length + 1)
/-- that one with a lower Key, behind the others -/
def fallL (n key : Int) (L : List (Nat × Int × Int)) : List (Nat × Int × Int) :=
  match L[winN n L.length]? with
  | some x => cutL n L ++ [(x.1, min x.2.1 key, x.2.2)]
  | none => L
theorem cutL_len (n : Int) {L : List (Nat × Int × Int)} (h : L ≠ []) : (cutL n L).length = L.length - 1 := by
  have h0 : 0 < L.length := List.length_pos_iff.2 h
  have := (winN_lt n h0).1
  unfold cutL
  simp; omega
theorem fallL_some {n key : Int} {L : List (Nat × Int × Int)} {x : Nat × Int × Int} (h : L[winN n L.length]? = some x) : fallL n key L = cutL n L ++ [(x.1, min x.2.1 key, x.2.2)] := by unfold fallL; rw [h]
theorem fallL_len (n key : Int) (L : List (Nat × Int × Int)) : (fallL n key L).length = L.length := by
  by_cases h : L = []
  · subst h; rfl
  · have h0 : 0 < L.length := List.length_pos_iff.2 h
    have h1 := (winN_lt n h0).1
    rw [fallL_some (List.getElem?_eq_getElem h1), List.length_append, cutL_len n h]
    simp; omega
theorem cutL_nil (n : Int) : cutL n [] = [] := by simp [cutL]
theorem fallL_nil (n key : Int) : fallL n key [] = [] := by simp [fallL]
end Go.Proofs.YthfdooigljkfiaaGreat

/- The laws' world beside boxes of a law's own; Min, Entry, Len of it; lists whose serials differ. -/
namespace Go.Proofs.YthfdooigljkfiaaGreat
open Go.ChangeShapes Go.WideShapes Go.ChangeAt Go.RowKit
open Tr

section
variable {w0 : Fm} {w w' : World} {pw N K : Nat} {L0 L1 : List (Nat × Int × Int)} {nx : Int}
/-- a box of fewer cells is no list of held -/
theorem Lz.box {P : Nat → Prop} {v : Value} {L : List (Nat × Int × Int)} {g : Nat} (h : Lz P w v L) (hg : w.cell? ⟨g, 2, none⟩ = none) (k : Kept (fun b => b = g) w w') : Lz P w' v L := by
  rcases h with h | ⟨b, cap, e, h1, h2, h3', h4, h5⟩
  · exact Or.inl h
  · refine Or.inr ⟨b, cap, e, h1, h2, Nat.lt_of_lt_of_le h3' k.size, h4, fun j u hu => ?_⟩
    have hne : b ≠ g := fun q => by
      subst q
      cases L with
      | nil => simp [row] at hu
      | cons x L =>
        have := h5 2 (.int .i64 x.2.2) (by simp [row, h3])
        rw [hg] at this
        cases this
    exact (k.cell (p := ⟨b, j, none⟩) h3' hne).trans (h5 j u hu)
/-- from here on, where new blocks were made -/
theorem Sit.re' (h : Sit w0 w pw N K L0 L1 nx) (k : Kept (fun _ => False) w w') :
    ∃ T : Nat → Prop, (∀ b, T b → (w0.T b ∨ w0.w.heap.size ≤ b) ∧ b < w.heap.size) ∧ Sit ⟨w', T⟩ w' pw N K L0 L1 nx := by
  obtain ⟨F, pa, pm, v0, v1, s, t, u, sp, mo, h1, h2⟩ := h
  have hlt := h1.lt
  have h3 := h1.plain k
  refine ⟨fun b => F b ∨ b = pw, fun b hb => ?_, F, pa, pm, v0, v1, s, t, u, sp, mo, ⟨h3.blk, h3.is, h3.out, h3.l0, h3.l1, fun k hk => Or.inl (Or.inl hk), Or.inl (Or.inr rfl), Kept.refl _ _⟩, h2⟩
  rcases hb with hb | hb
  · exact ⟨h1.new b hb, h1.is.lt b hb⟩
  · subst hb; exact ⟨h1.pwn, hlt⟩
/-- from here on, where a box of a law's own was written -/
theorem Sit.box {g : Nat} (h : Sit w0 w pw N K L0 L1 nx) (hc : w.cell? ⟨g, 2, none⟩ = none) (hg : ¬ w0.T g ∧ g < w0.w.heap.size) (k : Kept (fun b => b = g) w w') :
    ∃ T : Nat → Prop, (∀ b, T b → (w0.T b ∨ w0.w.heap.size ≤ b) ∧ b < w.heap.size) ∧ Sit ⟨w', T⟩ w' pw N K L0 L1 nx := by
  obtain ⟨F, pa, pm, v0, v1, s, t, u, sp, mo, h1, h2⟩ := h
  have hlt := h1.lt
  have hF : ¬ F g := fun q => (h1.new g q).elim hg.1 fun z => by omega
  have hp : pw ≠ g := fun q => (q ▸ h1.pwn).elim hg.1 fun z => by omega
  refine ⟨fun b => F b ∨ b = pw, fun b hb => ?_, F, pa, pm, v0, v1, s, t, u, sp, mo, ⟨(k.block pw hlt hp).trans h1.blk, h1.is.kept k (fun b hb q => hF (q ▸ hb)), h1.out, h1.l0.box hc k, h1.l1.box hc k, fun k hk => Or.inl (Or.inl hk), Or.inl (Or.inr rfl), Kept.refl _ _⟩, h2⟩
  rcases hb with hb | hb
  · exact ⟨h1.new b hb, h1.is.lt b hb⟩
  · subst hb; exact ⟨h1.pwn, hlt⟩

/-- Min of the first heap -/
theorem Sit.min0 {x : Nat × Int × Int} (h : Sit w0 w pw N K L0 L1 nx) (hx : L0[lstS L0 (L0.length - 1)]? = some x) (hK : K ≤ 90000000) :
    ∃ (pa : Nat) (r : Int), pw < w.heap.size ∧ w.cell? ⟨pw, 0, none⟩ = some (.pointer (some ⟨pa, 0, none⟩)) ∧ w.cell? ⟨pw, 1, none⟩ = some (.int .i64 r) ∧
      ∀ w1, Kept (fun _ => False) w w1 → Calls Tryz.prog 28 #[.pointer (some ⟨pa, 0, none⟩), .int .i64 r] w1 fun e w' => e = .returned (.int .i64 (x.1 : Int)) ∧ (∀ j, w'.cell? ⟨pw, j, none⟩ = w1.cell? ⟨pw, j, none⟩) ∧ Sit w0 w' pw N (K + 200) L0 L1 nx := by
  obtain ⟨F, pa, pm, v0, v1, s, t, u, sp, mo, h1, hi, hk, hm⟩ := h
  obtain ⟨c0, c1, _⟩ := h1.cells
  refine ⟨pa, (headr t), h1.lt, c0, c1, fun w1 k1 => ?_⟩
  have h2 := h1.plain k1
  refine (minC hi (by omega) (Ex.start h2.is)).mono ?_
  rintro e w2 ⟨m, rfl, _, hm2, k, hk4, e2⟩
  refine ⟨by rw [hm2 x hx], fun j => e2.kept.cell (p := ⟨pw, j, none⟩) h2.lt h2.out, F, pa, pm, v0, v1, _, t, u, sp, mo, h2.ex e2, hi.tk k, by show s.steps + k + pot s t u ≤ _ ∧ sp + pot s t u ≤ _ ∧ _; omega, hm⟩
/-- Entry of an item of the first heap -/
theorem Sit.entry0 {x : Nat × Int × Int} (h : Sit w0 w pw N K L0 L1 nx) (hx : x ∈ L0) (hK : K ≤ 90000000) :
    ∃ pa : Nat, pw < w.heap.size ∧ w.cell? ⟨pw, 0, none⟩ = some (.pointer (some ⟨pa, 0, none⟩)) ∧
      ∀ w1, Kept (fun _ => False) w w1 → Calls Tryz.prog 85 #[.pointer (some ⟨pa, 0, none⟩), .int .i64 (x.1 : Int)] w1 fun e w' => e = .returned (.agg #[.int .i64 x.2.1, .int .i64 x.2.2]) ∧ Sit w0 w' pw N (K + 2) L0 L1 nx := by
  obtain ⟨F, pa, pm, v0, v1, s, t, u, sp, mo, h1, hi, hk, hm⟩ := h
  obtain ⟨c0, _⟩ := h1.cells
  refine ⟨pa, h1.lt, c0, fun w1 k1 => ?_⟩
  have h2 := h1.plain k1
  have hl : LS s x.1 = true := hi.a.item hx
  have he := hi.a.en x hx
  refine (entryT (x.1 : Int) (Ex.start h2.is) (by omega)).mono ?_
  rintro e w2 ⟨rfl, e2⟩
  have g7 : getS s (x.1 : Int) 7 = x.2.1 := (get_nat (j := 7) hl (by decide)).trans he.1
  have g8 : getS s (x.1 : Int) 8 = x.2.2 := (get_nat (j := 8) hl (by decide)).trans he.2
  exact ⟨by rw [g7, g8], F, pa, pm, v0, v1, _, t, u, sp, mo, h2.ex e2, hi.tk 2, by show s.steps + 2 + pot s t u ≤ _ ∧ sp + pot s t u ≤ _ ∧ _; omega, hm⟩
/-- how many cells are taken -/
theorem Sit.len (h : Sit w0 w pw N K L0 L1 nx) :
    ∃ pa : Nat, pw < w.heap.size ∧ w.cell? ⟨pw, 0, none⟩ = some (.pointer (some ⟨pa, 0, none⟩)) ∧
      ∀ w1, Kept (fun _ => False) w w1 → Calls Tryz.prog 15 #[.pointer (some ⟨pa, 0, none⟩)] w1 fun e w' => e = .returned (.int .i64 ((2 * (L0.length + L1.length) : Nat) : Int)) ∧ ∃ n, w' = w1.drewN n := by
  obtain ⟨F, pa, pm, v0, v1, s, t, u, sp, mo, h1, hi, hk, hm⟩ := h
  obtain ⟨c0, _⟩ := h1.cells
  refine ⟨pa, h1.lt, c0, fun w1 k1 => ?_⟩
  have := lenA pa pm s F w1 (h1.plain k1).is
  rw [hi.num] at this
  exact this
end

/-- serials that differ, below nx; Keys that are not too low -/
def Ser (L : List (Nat × Int × Int)) (nx : Int) : Prop := (L.map (fun x => x.2.2)).Nodup ∧ ∀ x ∈ L, x.2.2 < nx ∧ -2000 ≤ x.2.1
section
variable {L : List (Nat × Int × Int)} {nx : Int}
theorem Ser.nil : Ser [] 0 := ⟨by simp, fun x h => by cases h⟩
theorem Ser.sub {M : List (Nat × Int × Int)} (h : Ser L nx) (hs : M.Sublist L) : Ser M nx := ⟨(hs.map _).nodup h.1, fun x hx => h.2 x (hs.subset hx)⟩
theorem Ser.push (h : Ser L nx) (j : Nat) (key : Int) (hk : -2000 ≤ key) : Ser (L ++ [(j, key, nx)]) (nx + 1) := by
  refine ⟨?_, fun x hx => ?_⟩
  · rw [List.map_append, List.nodup_append]
    refine ⟨h.1, by simp, fun a ha b hb q => ?_⟩
    simp at hb
    obtain ⟨x, hx, rfl⟩ := List.mem_map.1 ha
    have := (h.2 x hx).1
    omega
  · rw [List.mem_append] at hx
    rcases hx with hx | hx
    · have := h.2 x hx; exact ⟨by omega, this.2⟩
    · simp at hx; subst hx; exact ⟨by simp only; omega, hk⟩
theorem cut_sub (k : Nat) : (L.take k ++ L.drop (k + 1)).Sublist L := by
  by_cases h : k < L.length
  · have e : L = L.take k ++ L[k] :: L.drop (k + 1) := by rw [← List.drop_eq_getElem_cons h, List.take_append_drop]
    exact (List.Sublist.append_left (List.sublist_cons_self _ _) _).trans (by rw [← e]; exact List.Sublist.refl _)
  · rw [List.drop_eq_nil_of_le (by omega), List.append_nil]
    exact List.take_sublist _ _
theorem popL_sub : (popL L).Sublist L := cut_sub _
theorem cutL_sub (n : Int) : (cutL n L).Sublist L := cut_sub _
theorem Ser.fall (h : Ser L nx) (n key : Int) (hk : -2000 ≤ key) : Ser (fallL n key L) nx := by
  by_cases h0 : L = []
  · subst h0; rw [fallL_nil]; exact h
  · have hlt := (winN_lt n (List.length_pos_iff.2 h0)).1
    have hx : L[winN n L.length]? = some L[winN n L.length] := List.getElem?_eq_getElem hlt
    rw [fallL_some hx]
    generalize L[winN n L.length] = x at hx
    have hm : x ∈ L := List.mem_of_getElem? hx
    obtain ⟨e, _⟩ := split_at hx
    refine ⟨?_, fun y hy => ?_⟩
    · have hp : ((cutL n L ++ [(x.1, min x.2.1 key, x.2.2)]).map (fun x => x.2.2)).Perm (L.map (fun x => x.2.2)) := by
        rw [e]
        unfold cutL
        simp only [List.map_append, List.map_cons, List.map_nil, List.append_assoc]
        rw [← e]
        exact (List.perm_append_left_iff _).2 (List.perm_append_singleton _ _)
      exact hp.nodup_iff.2 h.1
    · rw [List.mem_append] at hy
      rcases hy with hy | hy
      · exact h.2 y ((cutL_sub n).subset hy)
      · simp at hy
        subst hy
        have := h.2 x hm
        exact ⟨this.1, by simp only; omega⟩
/-- the least is before all that are left -/
theorem Ser.least (h : Ser L nx) {x : Nat × Int × Int} (hx : L[lstS L (L.length - 1)]? = some x) : ∀ y ∈ popL L, bef x.2.1 x.2.2 y.2.1 y.2.2 = true := by
  intro y hy
  obtain ⟨e, _⟩ := split_at hx
  have h0 : 0 < L.length := by
    cases L with
    | nil => simp at hx
    | cons a b => simp
  obtain ⟨z, hz, hl⟩ := lst_least L (L.length - 1) (by omega)
  rw [hx] at hz
  injection hz with hz
  subst hz
  obtain ⟨m, hm⟩ := List.mem_iff_getElem?.1 (popL_sub.subset hy)
  have hml : m < L.length := (List.getElem?_eq_some_iff.1 hm).1
  have q := hl m (by omega) y hm
  have hne : y.2.2 ≠ x.2.2 := fun z => by
    have hn := h.1
    rw [e] at hn
    simp only [List.map_append, List.map_cons] at hn
    have e2 := (List.perm_middle (a := x.2.2) (l₁ := (L.take (lstS L (L.length - 1))).map (fun x => x.2.2)) (l₂ := (L.drop (lstS L (L.length - 1) + 1)).map (fun x => x.2.2))).nodup_iff.1 hn
    rw [List.nodup_cons, ← List.map_append] at e2
    exact e2.1 (List.mem_map.2 ⟨y, hy, z⟩)
  simp [befH, bef] at q ⊢
  omega
end
end Go.Proofs.YthfdooigljkfiaaGreat
