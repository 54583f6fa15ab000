/- A Counter as it lies in memory; the walks of New, Index, oneMore. -/
import Derived.Test.YtlckfnnjplclmaaVa
import Derived.Deep.DeepCutAuto
namespace Go.Proofs.Ytlckfnnjplclmaa
open Go.ChangeShapes Go.WideShapes Go.ChangeAt Go.RowKit

/-- at p lies a Counter with these digits, so many carries so far; its blocks are F's -/
def IsC (w : World) (F : Nat → Prop) (p : Nat) (l : List Int) (k : Nat) : Prop :=
  ∃ v, w.heap[p]? = some (.cells #[v, .int .i64 k] 39 (0, 0)) ∧ w.ownsRow 0 3 1 v l.length (row int1 l) ∧ F p ∧ (∀ g, v.ownBlock = some g → F g) ∧ (∀ b, F b → b < w.heap.size)

theorem IsC.kept {w w' : World} {F : Nat → Prop} {p : Nat} {l : List Int} {k : Nat} (h : IsC w F p l k) {G : Nat → Prop} (hk : Kept G w w') (hd : ∀ b, F b → ¬ G b) : IsC w' F p l k := by
  obtain ⟨v, hb, ho, f1, f2, f3⟩ := h
  exact ⟨v, (hk.block p (f3 p f1) (hd p f1)).trans hb, own_kept ho hk fun g hg => hd g (f2 g hg), f1, f2, fun b e => Nat.lt_of_lt_of_le (f3 b e) hk.size⟩
theorem IsC.below {w w' : World} {F : Nat → Prop} {p : Nat} {l : List Int} {k : Nat} (h : IsC w F p l k) (hk : Below w.heap.size w w') : IsC w' F p l k :=
  h.kept (Kept.of_below (F := fun _ => False) hk) fun _ _ e => e

theorem newC (w : World) : Calls Try.prog 6 #[] w fun e w' => ∃ p, e = .returned (.pointer (some ⟨p, 0, none⟩)) ∧ IsC w' (fun b => b = w.heap.size) p [] 0 ∧ Below w.heap.size w w' := by
  go_enter Try.func6, Try.ntmps6
  go_wp2
  go_ret
  refine ⟨_, rfl, ⟨.slice none 0 0, by simpa using heap_alloc_new w _, World.ownsRow_nil _ 0 3 1, rfl, fun g h => (by cases h), fun b e => (by subst e; simp)⟩, (Below.refl _ _).alloc (Nat.le_refl _) _⟩

/-- what Index answers -/
def ix (l : List Int) : Int := if fi l < l.length then (fi l : Int) else -1

set_option maxHeartbeats 1000000 in
theorem index_any (v : Value) (l : List Int) (w : World) (h : Lst w v l) (hl : l.length ≤ 1000) :
    Calls Try.prog 18 #[v, .int .i64 2] w fun e w' => e = .returned (.int .i64 (ix l)) ∧ w' = w := by
  obtain ⟨a, c, rfl, h1, h2, h3, h4⟩ := h
  have H4 := hid h4
  clear h4 h3 h2
  go_enter Try.func18, Try.ntmps18
  go_wp2
  go_loopw [8] (fun iv wr => ∃ (i : Nat), iv = .int .i64 (i : Int) ∧ i ≤ l.length ∧ Hid (i ≤ fi l) ∧ w = wr) (fun iv _ => l.length - (intOf iv).toNat)
  case atStart => exact ⟨0, rfl, Nat.zero_le _, hid (Nat.zero_le _), rfl⟩
  case round =>
    obtain ⟨i, rfl, hi, HI, rfl⟩ := hrel
    by_cases hlt : i < l.length
    · have hlt' : (i : Int) < (l.length : Int) := by omega
      obtain ⟨y, hy⟩ : ∃ y, l[i]? = some y := ⟨_, List.getElem?_eq_getElem hlt⟩
      rcases H4.out with e | ⟨b, off, rfl, hb, hc⟩
      · subst e; simp at hlt
      have c2 : w.cell? ⟨b, off + i, none⟩ = some (.int .i64 y) := hc _ _ hy
      by_cases y2 : y = 2
      · have y2' : (2 == y) = true := by simp [y2]
        have HE : Hid (ix l = i) := hid (by unfold ix; rw [fi_eq HI.out (y2 ▸ hy), if_pos hlt])
        clear y2 hc hy
        go_wp2
        go_ret
        exact ⟨by rw [HE.out]; rfl, rfl⟩
      · have y2' : (2 == y) = false := by simp; omega
        have HN := hid (fi_lt HI.out hy y2)
        clear y2 hc hy
        go_wp2
        go_roundw
        case rel => exact ⟨i + 1, by go_num, by omega, HN, trivial⟩
        case measure => simp [intOf]; omega
    · have HE : Hid (ix l = -1) := hid (if_neg (by have := HI.out; omega))
      go_wp2
      go_ret
      exact ⟨by rw [HE.out]; rfl, rfl⟩

theorem row_snoc (l : List Int) (x : Int) : row int1 (l ++ [x]) = row int1 l ++ int1 x := by rw [row_append]; simp [row]
theorem int1_set : ∀ (l : List Int) (i : Nat) (x : Int), row int1 (l.set i x) = (row int1 l).set i (.int .i64 x)
  | [], i, x => by simp [row]
  | y :: t, 0, x => by simp [row, int1]
  | y :: t, i + 1, x => by simp [row, int1]; simpa using int1_set t i x

set_option maxHeartbeats 2000000 in
theorem oneMore_old (p i : Nat) (x : Int) (l : List Int) (k : Nat) (F : Nat → Prop) (w : World) (h : IsC w F p l k) (hl : l.length ≤ 100) (hx : l[i]? = some x) (h0 : 0 ≤ x ∧ x ≤ 2) :
    Calls Try.prog 19 #[.pointer (some ⟨p, 0, none⟩), .int .i64 (i : Int)] w fun e w' => e = .returned (.tuple #[]) ∧ IsC w' F p (l.set i (x + 1)) k ∧ Kept F w w' := by
  obtain ⟨v, hb, ho, f1, f2, f3⟩ := h
  have hi : i < l.length := (List.getElem?_eq_some_iff.1 hx).1
  obtain ⟨g, cap, rfl, _, hg⟩ := ho.form (by omega)
  have hp : p < w.heap.size := f3 p f1
  have c0 : w.cell? ⟨p, 0, none⟩ = some (.slice (some ⟨g, 0, none⟩) l.length cap) := blk_cell hb rfl
  have c1 : w.cell? ⟨g, i, none⟩ = some (.int .i64 x) := by rw [ho.cellAt i (by omega), int1_at, hx]; rfl
  have z1 : w.frozen? ⟨g, i, none⟩ = false := ho.frozenAt i
  have hi' : (i : Int) < (l.length : Int) := by omega
  have hne : ((i : Int) == (l.length : Int)) = false := by rw [beq_eq_false_iff_ne]; omega
  have hgp : p ≠ g := fun e => own_ne_block ho hb (by decide) (by rw [e]; rfl)
  have HB := hid hb
  have HO := hid ho
  have HP := hid hgp
  have F1 := hid f1
  have F2 := hid f2
  have F3 := hid f3
  clear hb ho f1 f2 f3 hx hgp
  go_enter Try.func19, Try.ntmps19
  go_wp2
  go_end0
  refine ⟨rfl, ⟨.slice (some ⟨g, 0, none⟩) l.length cap, blk_other HB.out HP.out, ?_, F1.out, F2.out, fun b e => by have := F3.out b e; simpa [World.setCell] using this⟩, (Kept.refl F w).setCell (p := ⟨g, i, none⟩) (Or.inl (F2.out g rfl)) _⟩
  have := (HO.out.stored i (.int .i64 (x + 1))).1
  rw [← int1_set] at this
  simpa using this

set_option maxHeartbeats 2000000 in
theorem oneMore_new (p : Nat) (l : List Int) (k : Nat) (F : Nat → Prop) (w : World) (h : IsC w F p l k) (hl : l.length ≤ 100) :
    Calls Try.prog 19 #[.pointer (some ⟨p, 0, none⟩), .int .i64 (l.length : Int)] w fun e w' => e = .returned (.tuple #[]) ∧ IsC w' (Grow F w w') p (l ++ [1]) k ∧ Kept F w w' := by
  obtain ⟨v, hb, ho, f1, f2, f3⟩ := h
  obtain ⟨va, vc, rfl⟩ := own_form ho
  have hp : p < w.heap.size := f3 p f1
  have c0 : w.cell? ⟨p, 0, none⟩ = some (.slice va l.length vc) := blk_cell hb rfl
  have z0 : w.frozen? ⟨p, 0, none⟩ = false := blk_free hb
  have hne : ((l.length : Int) == (l.length : Int)) = true := by simp
  obtain ⟨ti, hti, hz0, hz1, hz2⟩ := info_parts info3i
  have HT := hid hti
  have Z0 := hid hz0
  have Z1 := hid hz1
  have Z2 := hid hz2
  have HB := hid hb
  have HO := hid ho
  have F1 := hid f1
  have F2 := hid f2
  have F3 := hid f3
  clear hb ho f1 f2 f3 hti hz0 hz1 hz2
  go_enter Try.func19, Try.ntmps19
  go_upto_region 2 with (at_builtin; refine wpList_append_lies _ rfl (.tmp 15) (.tmp 16) 24 rfl 0 3 ti _ 1 8 Try.underlying24 HT.out Z0.out Z1.out Z2.out rfl (by decide) (.slice va l.length vc) l.length (row int1 l) rfl (World.ownsRow.alloc HO.out _) ⟨w.heap.size, 0, none⟩ 1 1 (int1 0) rfl rfl (World.news_of_block (heap_alloc_new w _)) (int1_one _) (by decide) (by simp [maxLen]; omega) (by omega) (Nat.zero_le _) (w.heap.size + 1) (by simp) ?_; intro g cap w1 ho hgr hat hlt; have hpw : w1.heap[p]? = w.heap[p]? := (hgr.block p (by simp; omega) (fun e => own_ne_block HO.out HB.out (by decide) e.symm)).trans (Below.heap_alloc _ _ _ hp); have e0 : w1.cell? ⟨p, 0, none⟩ = some (.slice va l.length vc) := (World.cell?_of_block hpw).trans c0; have e1 : w1.frozen? ⟨p, 0, none⟩ = false := (World.frozen?_of_block hpw).trans z0; have HPW := hid (hpw.trans HB.out); have hp1 := lt_of_block (hpw.trans HB.out); have HO1 := hid ho; have HG := hid hgr; have HA := hid hat; have HL := hid hlt; clear ho hgr hat hlt hpw c0 z0)
  obtain ⟨w2, hw2⟩ : ∃ w2, w2 = w1.setCell ⟨p, 0, none⟩ (.slice (some ⟨g, 0, none⟩) (l.length + 1) cap) := ⟨_, rfl⟩
  rw [← hw2]
  have hgp : p ≠ g := fun e => own_ne_block HO1.out HPW.out (by decide) (by rw [e]; rfl)
  have b2 : w2.heap[p]? = some (.cells #[.slice (some ⟨g, 0, none⟩) (l.length + 1) cap, .int .i64 k] 39 (0, 0)) := by
    have := blk_set (j := 0) (u := .slice (some ⟨g, 0, none⟩) (l.length + 1) cap) HPW.out
    rw [hw2]; simpa using this
  have o2 : w2.ownsRow 0 3 1 (.slice (some ⟨g, 0, none⟩) (l.length + 1) cap) (l.length + 1) (row int1 l ++ int1 0) := by
    rw [hw2]; exact ownsRow_setCell_other HO1.out (fun e => hgp (by simpa [Value.ownBlock] using e.symm)) _
  have K2 : Kept F w w2 := by
    rw [hw2]
    exact (((Kept.refl F w).alloc _).grown HG.out (fun b hb => Or.inl (F2.out b hb))).setCell (p := ⟨p, 0, none⟩) (Or.inl F1.out) _
  have hs2 : g < w2.heap.size := by rw [hw2]; simpa [World.setCell] using HL.out
  have c0 : w2.cell? ⟨p, 0, none⟩ = some (.slice (some ⟨g, 0, none⟩) (l.length + 1) cap) := blk_cell b2 rfl
  have c1 : w2.cell? ⟨g, l.length, none⟩ = some (.int .i64 0) := by
    rw [o2.cellAt l.length (by omega), List.getElem?_append_right (by rw [int1_row_len]; exact Nat.le_refl _), int1_row_len, Nat.sub_self]; rfl
  have z1 : w2.frozen? ⟨g, l.length, none⟩ = false := o2.frozenAt _
  have hlt : (l.length : Int) < (l.length : Int) + 1 := by omega
  have B2 := hid b2
  have O2 := hid o2
  have KK := hid K2
  have HP := hid hgp
  have hp2 : p < w2.heap.size := lt_of_block b2
  clear hw2 b2 o2 K2 hgp e0 e1 HO1 HPW HL hp1 HO hne
  go_wp2
  go_end0
  have K3 : Kept F w (w2.setCell ⟨g, l.length, none⟩ (.int .i64 1)) := KK.out.setCell (p := ⟨g, l.length, none⟩) (by
    rcases HA.out with q | q
    · exact Or.inl (F2.out g q)
    · exact Or.inr (by show w.heap.size ≤ g; omega)) _
  refine ⟨rfl, ⟨.slice (some ⟨g, 0, none⟩) (l.length + 1) cap, blk_other B2.out HP.out, ?_, Or.inl F1.out, fun b hb => ?_, Grow.lt F3.out K3.size⟩, K3⟩
  · have := (O2.out.stored l.length (.int .i64 1)).1
    rw [List.length_append, row_append]
    rw [show (row int1 l ++ int1 0).set l.length (.int .i64 1) = row int1 l ++ row int1 [1] from by
      rw [List.set_append_right _ _ (by rw [int1_row_len]; exact Nat.le_refl _), int1_row_len, Nat.sub_self]; rfl] at this
    exact this
  · cases hb
    rcases HA.out with q | q
    · exact Or.inl (F2.out g q)
    · exact Or.inr ⟨by show w.heap.size ≤ g; omega, by simpa [World.setCell] using hs2⟩

/-- one digit one more, or one there -/
def mo (l : List Int) (i : Nat) : List Int :=
  match l[i]? with
  | some x => l.set i (x + 1)
  | none => l ++ [1]
theorem mo_some {l : List Int} {i : Nat} {x : Int} (h : l[i]? = some x) : mo l i = l.set i (x + 1) := by unfold mo; rw [h]
theorem mo_none {l : List Int} : mo l l.length = l ++ [1] := by unfold mo; rw [List.getElem?_eq_none (Nat.le_refl _)]
theorem mo_up (l : List Int) : mo l 0 = up l := by
  match l with
  | [] => rfl
  | x :: t => rfl
theorem mo_cr {l : List Int} (h : fi l < l.length) : mo (l.set (fi l) 0) (fi l + 1) = cr l := by
  by_cases c : fi l + 1 = l.length
  · rw [cr_last l h c]
    have : fi l + 1 = (l.set (fi l) 0).length := by rw [List.length_set]; exact c
    rw [this, mo_none]
  · have hx : l[fi l + 1]? = some l[fi l + 1] := List.getElem?_eq_getElem (by omega)
    rw [cr_mid l _ hx]
    exact mo_some (by rw [List.getElem?_set_ne (by omega)]; exact hx)

theorem Grow.twice {F : Nat → Prop} {a b c : World} (hab : a.heap.size ≤ b.heap.size) (hbc : b.heap.size ≤ c.heap.size) {k : Nat} (h : Grow (Grow F a b) b c k) : Grow F a c k := by
  rcases h with (h | h) | h
  · exact Or.inl h
  · exact Or.inr ⟨h.1, by omega⟩
  · exact Or.inr ⟨by omega, h.2⟩
theorem IsC.widen {w : World} {F G : Nat → Prop} {p : Nat} {l : List Int} {k : Nat} (h : IsC w F p l k) (hg : ∀ b, F b → G b) (hG : ∀ b, G b → b < w.heap.size) : IsC w G p l k := by
  obtain ⟨v, hb, ho, f1, f2, f3⟩ := h
  exact ⟨v, hb, ho, hg p f1, fun g e => hg g (f2 g e), hG⟩
theorem IsC.lt {w : World} {F : Nat → Prop} {p : Nat} {l : List Int} {k : Nat} (h : IsC w F p l k) : ∀ b, F b → b < w.heap.size := by
  obtain ⟨v, hb, ho, f1, f2, f3⟩ := h
  exact f3
/-- two steps one behind the other -/
theorem IsC.step {w0 w w' : World} {F : Nat → Prop} {p : Nat} {l : List Int} {k : Nat} (hF : ∀ b, F b → b < w0.heap.size) (h1 : Kept F w0 w) (h2 : Kept (Grow F w0 w) w w') (h : IsC w' (Grow (Grow F w0 w) w w') p l k) : IsC w' (Grow F w0 w') p l k ∧ Kept F w0 w' :=
  ⟨h.widen (fun _ e => Grow.twice h1.size h2.size e) (Grow.lt hF (h1.trans h2).size), h1.trans h2⟩

theorem oneMore_any (p i : Nat) (l : List Int) (k : Nat) (F : Nat → Prop) (w : World) (h : IsC w F p l k) (hl : l.length ≤ 100) (hi : i ≤ l.length) (hd : ∀ x ∈ l, 0 ≤ x ∧ x ≤ 2) :
    Calls Try.prog 19 #[.pointer (some ⟨p, 0, none⟩), .int .i64 (i : Int)] w fun e w' => e = .returned (.tuple #[]) ∧ IsC w' (Grow F w w') p (mo l i) k ∧ Kept F w w' := by
  by_cases c : i = l.length
  · subst c
    rw [mo_none]
    exact oneMore_new p l k F w h hl
  · have hx : l[i]? = some l[i] := List.getElem?_eq_getElem (by omega)
    rw [mo_some hx]
    refine (oneMore_old p i _ l k F w h hl hx (hd _ (List.mem_of_getElem? hx))).mono ?_
    rintro e w' ⟨rfl, h1, h2⟩
    exact ⟨rfl, h1.widen (fun _ e => Or.inl e) (Grow.lt h.lt h2.size), h2⟩
end Go.Proofs.Ytlckfnnjplclmaa
