/- The walks of a Counter's Inc, All, Value, Carries. -/
import Derived.Test.YtlckfnnjplclmaaCt
import Derived.Lib.SliceRun
namespace Go.Proofs.Ytlckfnnjplclmaa
open Go.ChangeShapes Go.WideShapes Go.ChangeAt Go.RowKit

theorem IsC.add {w : World} {F : Nat → Prop} {p : Nat} {l : List Int} {k : Nat} (h : IsC w F p l k) (j : Nat) : IsC (w.setCell ⟨p, 1, none⟩ (.int .i64 ((k : Int) + j))) F p l (k + j) := by
  obtain ⟨v, hb, ho, f1, f2, f3⟩ := h
  refine ⟨v, ?_, ownsRow_setCell_other ho (fun e => own_ne_block ho hb (by decide) e) _, f1, f2, fun b e => by simpa [World.setCell] using f3 b e⟩
  have := blk_set (j := 1) (u := .int .i64 ((k : Int) + j)) hb
  simpa using this

theorem IsC.step1 {w0 w w' : World} {F : Nat → Prop} {p : Nat} {l : List Int} {k : Nat} (hF : ∀ b, F b → b < w0.heap.size) (h1 : Kept F w0 w) (h2 : Kept F w w') (h : IsC w' (Grow F w w') p l k) : IsC w' (Grow F w0 w') p l k ∧ Kept F w0 w' :=
  ⟨h.widen (fun _ e => e.imp id fun e => ⟨Nat.le_trans h1.size e.1, e.2⟩) (Grow.lt hF (h1.trans' h2).size), h1.trans' h2⟩

set_option maxHeartbeats 2000000 in
theorem inc_any (p : Nat) (l : List Int) (k : Nat) (F : Nat → Prop) (w : World) (h : IsC w F p l k) (hl : l.length ≤ 39) (hr : rg true l = true) (hk : k ≤ 1000000) :
    Calls Try.prog 8 #[.pointer (some ⟨p, 0, none⟩)] w fun e w' => e = .returned (.tuple #[.int .i64 (cq l : Int), .bool true]) ∧ IsC w' (Grow F w w') p (up (cr l)) (k + cq l) ∧ Kept F w w' := by
  have IS := hid h
  have HR := hid hr
  obtain ⟨v, hb, ho, f1, f2, f3⟩ := h
  have LT : Lst w v l := Own.lst ho
  have IX := hid (index_any v l w LT (by omega))
  have hp : p < w.heap.size := f3 p f1
  have c0 : w.cell? ⟨p, 0, none⟩ = some v := blk_cell hb rfl
  by_cases h2 : fi l < l.length
  · have hix : ix l = (fi l : Int) := if_pos h2
    have hcq : cq l = 1 := if_pos h2
    rw [hix] at IX
    rw [hcq]
    obtain ⟨g, cap, rfl, _, hg⟩ := ho.form (by omega)
    obtain ⟨i, hi⟩ : ∃ i, i = fi l := ⟨_, rfl⟩
    have c1 : w.cell? ⟨g, i, none⟩ = some (.int .i64 2) := by rw [hi, ho.cellAt (fi l) (by omega), int1_at, fi_at l h2]; rfl
    have z1 : w.frozen? ⟨g, i, none⟩ = false := ho.frozenAt _
    have hgp : p ≠ g := fun e => own_ne_block ho hb (by decide) (by rw [e]; rfl)
    have I1 : Hid (IsC (w.setCell ⟨g, i, none⟩ (.int .i64 0)) F p (l.set i 0) k) := hid (by
      refine ⟨.slice (some ⟨g, 0, none⟩) l.length cap, blk_other hb hgp, ?_, f1, f2, fun b e => by simpa [World.setCell] using f3 b e⟩
      have := (ho.stored i (.int .i64 0)).1
      rw [← int1_set] at this
      simpa using this)
    have K1 : Hid (Kept F w (w.setCell ⟨g, i, none⟩ (.int .i64 0))) := hid ((Kept.refl F w).setCell (p := ⟨g, i, none⟩) (Or.inl (f2 g rfl)) _)
    have HD : Hid (∀ x ∈ l.set i 0, (0 : Int) ≤ x ∧ x ≤ 2) := hid (fun x hx => by
      rcases List.mem_or_eq_of_mem_set hx with hx | rfl
      · exact rg_mem _ _ HR.out x hx
      · omega)
    have HD2 : Hid (∀ x ∈ cr l, (0 : Int) ≤ x ∧ x ≤ 2) := hid (rg_mem _ _ (cr_rg l HR.out))
    have HL := hid (cr_len l)
    have M1 : Hid (mo (l.set i 0) (i + 1) = cr l) := hid (by rw [hi]; exact mo_cr h2)
    have hil : (i : Int) < (l.length : Int) := by omega
    have hi39 : ((i : Int) == 39) = false := by rw [beq_eq_false_iff_ne]; omega
    have hi0 : (0 : Int) ≤ (i : Int) := by omega
    have F1 := hid f1
    have F3 := hid f3
    rw [← hi] at IX
    clear hi h2 hix hcq hb ho f1 f2 LT f3 hr
    go_enter Try.func8, Try.ntmps8
    go_wp2_with fail
    refine IX.out.mono ?_
    rintro e w1 ⟨rfl, rfl⟩
    go_wp2_with fail
    refine (oneMore_any p (i + 1) (l.set i 0) k F _ I1.out (by simp; omega) (by simp; omega) HD.out).mono ?_
    rintro e w2 ⟨rfl, i2, k2⟩
    rw [M1.out] at i2
    obtain ⟨i2, k2⟩ := IsC.step1 F3.out K1.out k2 i2
    have I2 := hid i2
    have K2 := hid k2
    clear i2 k2 I1 K1 c0 c1 z1
    go_wp2_with fail
    refine (oneMore_any p 0 (cr l) k _ _ I2.out (by have := HL.out; omega) (Nat.zero_le _) HD2.out).mono ?_
    rintro e w3 ⟨rfl, i3, k3⟩
    rw [mo_up] at i3
    obtain ⟨i3, k3⟩ := IsC.step F3.out K2.out k3 i3
    have I3 := hid i3
    have K3 := hid k3
    obtain ⟨v3, b3, o3, g1, g2, g3⟩ := i3
    have c5 : w3.cell? ⟨p, 1, none⟩ = some (.int .i64 k) := blk_cell b3 rfl
    have z5 : w3.frozen? ⟨p, 1, none⟩ = false := blk_free b3
    have hp3 : p < w3.heap.size := g3 p g1
    clear b3 o3 g1 g2 g3 k3 I2 K2
    go_wp2
    go_ret2
    have K4 := K3.out.setCell (p := ⟨p, 1, none⟩) (Or.inl F1.out) (.int .i64 ((k : Int) + 1))
    exact ⟨rfl, (I3.out.add 1).widen (fun _ e => e.imp id fun e => ⟨e.1, by simpa [World.setCell] using e.2⟩) (Grow.lt F3.out K4.size), K4⟩
  · have hix : ix l = -1 := if_neg h2
    have hcq : cq l = 0 := if_neg h2
    have hcr : cr l = l := cr_none l (by omega)
    rw [hix] at IX
    rw [hcq, hcr]
    have HD : Hid (∀ x ∈ l, (0 : Int) ≤ x ∧ x ≤ 2) := hid (fun x hx => rg_mem _ _ HR.out x hx)
    have F1 := hid f1
    have F3 := hid f3
    clear h2 hix hcq hcr hb ho f1 f2 LT f3 hr
    go_enter Try.func8, Try.ntmps8
    go_wp2_with fail
    refine IX.out.mono ?_
    rintro e w1 ⟨rfl, rfl⟩
    go_wp2_with fail
    refine (oneMore_any p 0 l k F _ IS.out (by omega) (Nat.zero_le _) HD.out).mono ?_
    rintro e w3 ⟨rfl, i3, k3⟩
    rw [mo_up] at i3
    have I3 := hid i3
    have K3 := hid k3
    obtain ⟨v3, b3, o3, g1, g2, g3⟩ := i3
    have c5 : w3.cell? ⟨p, 1, none⟩ = some (.int .i64 k) := blk_cell b3 rfl
    have z5 : w3.frozen? ⟨p, 1, none⟩ = false := blk_free b3
    have hp3 : p < w3.heap.size := g3 p g1
    clear b3 o3 g1 g2 g3 k3
    go_wp2
    go_ret2
    have K4 := K3.out.setCell (p := ⟨p, 1, none⟩) (Or.inl F1.out) (.int .i64 ((k : Int) + 0))
    exact ⟨rfl, (I3.out.add 0).widen (fun _ e => e.imp id fun e => ⟨e.1, by simpa [World.setCell] using e.2⟩) (Grow.lt F3.out K4.size), K4⟩

set_option maxHeartbeats 1000000 in
theorem clone_any (v : Value) (l : List Int) (w : World) (h : Lst w v l) (hl : l.length ≤ 1000) :
    Calls Try.prog 20 #[v] w fun e w' => ∃ v', e = .returned v' ∧ Own w' w.heap.size v' l ∧ Below w.heap.size w w' := by
  have HW := hid h
  obtain ⟨a, c, rfl, h1, h2, h3, h4⟩ := h
  have q24 : ∀ (w : World) (a : Option Addr) (n c n' c' : Nat), (binOp .eql 24 (.slice a n c) (.slice none n' c')).run Try.prog w = .ok (.bool a.isNone) w := fun w a n c n' c' => Lib.run_eql_slice_nil w _ _ a n c n' c' Try.underlying24
  cases a with
  | none =>
    have hc := h3 rfl
    have hl0 : l = [] := List.eq_nil_of_length_eq_zero (by omega)
    subst hl0
    subst hc
    clear h3 h4 h1 h2 HW
    go_enter Try.func20, Try.ntmps20
    go_wp2
    go_ret
    exact ⟨_, rfl, Own.nil _ _, Below.refl _ _⟩
  | some ad =>
    clear h3 h4 h1 h2
    go_enter Try.func20, Try.ntmps20
    go_wp2_with (at_builtin; refine wpList_append_lst rfl (.tmp 5) (.tmp 6) rfl w.heap.size _ _ 0 (row int1 []) l rfl rfl (by exact own_lit w 0 [] (by simp) _ rfl) (by exact HW.out.below (box_below w 0 _)) (by omega) (by simp) ?_; intro v1 w1 o1 g1; have B1 := hid (below_grown (w0 := w) (own_lit w 0 [] (by simp) _ rfl) g1 (box_below w 0 _)); have O1 := hid o1; clear o1 g1)
    go_ret
    exact ⟨_, rfl, by have := O1.out; simpa [Own, row] using this, B1.out⟩

set_option maxHeartbeats 1000000 in
theorem all_any (p : Nat) (l : List Int) (k : Nat) (F : Nat → Prop) (w : World) (h : IsC w F p l k) (hl : l.length ≤ 1000) :
    Calls Try.prog 10 #[.pointer (some ⟨p, 0, none⟩)] w fun e w' => ∃ v', e = .returned v' ∧ Own w' w.heap.size v' l ∧ Below w.heap.size w w' := by
  obtain ⟨v, hb, ho, f1, f2, f3⟩ := h
  have CL := hid (clone_any v l w (Own.lst ho) hl)
  have hp : p < w.heap.size := f3 p f1
  have c0 : w.cell? ⟨p, 0, none⟩ = some v := blk_cell hb rfl
  clear hb ho f1 f2 f3
  go_enter Try.func10, Try.ntmps10
  go_wp2_with fail
  refine CL.out.mono ?_
  rintro e w1 ⟨v', rfl, o1, b1⟩
  have O1 := hid o1
  have B1 := hid b1
  clear o1 b1
  go_wp2
  go_ret
  exact ⟨_, rfl, O1.out, B1.out⟩

set_option maxHeartbeats 1000000 in
theorem value_any (p : Nat) (l : List Int) (k : Nat) (F : Nat → Prop) (w : World) (h : IsC w F p l k) (hl : l.length ≤ 1000) :
    Calls Try.prog 11 #[.pointer (some ⟨p, 0, none⟩)] w fun e w' => e = .returned (.int .i64 (vb l)) ∧ w' = w := by
  obtain ⟨v, hb, ho, f1, f2, f3⟩ := h
  have CL := hid (val_any v l w (Own.lst ho) hl)
  have hp : p < w.heap.size := f3 p f1
  have c0 : w.cell? ⟨p, 0, none⟩ = some v := blk_cell hb rfl
  clear hb ho f1 f2 f3
  go_enter Try.func11, Try.ntmps11
  go_wp2_with fail
  refine CL.out.mono ?_
  rintro e w1 ⟨rfl, rfl⟩
  go_wp2
  go_ret
  exact ⟨rfl, rfl⟩

theorem carries_any (p : Nat) (l : List Int) (k : Nat) (F : Nat → Prop) (w : World) (h : IsC w F p l k) :
    Calls Try.prog 12 #[.pointer (some ⟨p, 0, none⟩)] w fun e w' => e = .returned (.int .i64 (k : Int)) ∧ w' = w := by
  obtain ⟨v, hb, ho, f1, f2, f3⟩ := h
  have hp : p < w.heap.size := f3 p f1
  have c0 : w.cell? ⟨p, 1, none⟩ = some (.int .i64 k) := blk_cell hb rfl
  clear hb ho f1 f2 f3
  go_enter Try.func12, Try.ntmps12
  go_wp2
  go_ret
  exact ⟨rfl, rfl⟩
end Go.Proofs.Ytlckfnnjplclmaa
