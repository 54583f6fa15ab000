/- The walk of the reference's Inc. -/
import Derived.Test.YtlckfnnjplclmaaKn
namespace Go.Proofs.Ytlckfnnjplclmaa
open Go.ChangeShapes Go.WideShapes Go.ChangeAt Go.RowKit

/-- a row's cell turned -/
theorem own_store {w : World} {B g n cap : Nat} {L : List Int} (h : w.ownsRow B 3 1 (.slice (some ⟨g, 0, none⟩) n cap) n (row int1 L)) (i : Nat) (x : Int) : (w.setCell ⟨g, i, none⟩ (.int .i64 x)).ownsRow B 3 1 (.slice (some ⟨g, 0, none⟩) n cap) n (row int1 (L.set i x)) := by
  rw [int1_set]; exact (h.stored i _).1
theorem own_cell {w : World} {B g n cap : Nat} {L : List Int} (h : w.ownsRow B 3 1 (.slice (some ⟨g, 0, none⟩) n cap) n (row int1 L)) (i : Nat) (x : Int) (hi : i < n) (hx : L[i]? = some x) : w.cell? ⟨g, i, none⟩ = some (.int .i64 x) := by
  rw [h.cellAt i (by omega), int1_at, hx]; rfl
theorem below_store {w0 w : World} {p : Addr} {u : Value} (h : Below w0.heap.size w0 w) (hp : w0.heap.size ≤ p.block) : Below w0.heap.size w0 (w.setCell p u) := h.setCell hp _

set_option maxHeartbeats 4000000 in
theorem refInc_any (v : Value) (l : List Int) (w : World) (h : Lst w v l) (hl : l.length ≤ 39) (hr : rg true l = true) :
    Calls Try.prog 7 #[v] w fun e w' => ∃ v', e = .returned (.tuple #[v', .int .i64 (cq l : Int), .bool true]) ∧ Own w' w.heap.size v' (up (cr l)) ∧ Below w.heap.size w w' := by
  have HW := hid h
  have HR := hid hr
  obtain ⟨a, c, rfl, h1, h2, h3, h4⟩ := h
  clear h3 h4 h1 h2 hr
  go_enter Try.func7, Try.ntmps7
  go_wp2_with (at_builtin; refine wpList_append_lst rfl (.tmp 7) (.tmp 8) rfl w.heap.size _ _ 0 (row int1 []) l rfl rfl (by exact own_lit w 0 [] (by simp) _ rfl) (by exact HW.out.below (box_below w 0 _)) (by omega) (by simp) ?_; intro v1 w1 o1 g1; have B1 := hid (below_grown (w0 := w) (own_lit w 0 [] (by simp) _ rfl) g1 (box_below w 0 _)); have O1 : Hid (w1.ownsRow w.heap.size 3 1 v1 l.length (row int1 l)) := hid (by simpa [row] using o1); clear o1 g1)
  obtain ⟨va, vc, rfl⟩ := own_form O1.out
  have HD2 : Hid (∀ x ∈ cr l, (0 : Int) ≤ x ∧ x ≤ 2) := hid (rg_mem _ _ (cr_rg l HR.out))
  go_loopw [0, 5, 6] (fun lv cv iv wr => ∃ (i : Nat), lv = .slice va l.length vc ∧ cv = .int .i64 0 ∧ iv = .int .i64 (i : Int) ∧ i ≤ l.length ∧ Hid (i ≤ fi l) ∧ w1 = wr) (fun _ _ iv _ => l.length - (intOf iv).toNat)
  case atStart => exact ⟨0, rfl, rfl, rfl, Nat.zero_le _, hid (Nat.zero_le _), rfl⟩
  case round =>
    obtain ⟨i, rfl, rfl, rfl, hi, HI, rfl⟩ := hrel
    by_cases hlt : i < l.length
    · have hlt' : (i : Int) < (l.length : Int) := by omega
      obtain ⟨y, hy⟩ : ∃ y, l[i]? = some y := ⟨_, List.getElem?_eq_getElem hlt⟩
      obtain ⟨g, cap, e, _, hg⟩ := O1.out.form (by omega)
      cases e
      have c1 : w1.cell? ⟨g, i, none⟩ = some (.int .i64 y) := own_cell O1.out i y hlt hy
      by_cases y2 : y = 2
      · have y2' : (y != 2) = false := by simp [y2]
        subst y2
        have FI : fi l = i := fi_eq HI.out hy
        have CQ : Hid (cq l = 1) := hid (if_pos (by omega))
        by_cases hc : i + 1 = l.length
        · have hc' : ((i : Int) + 1 == (l.length : Int)) = true := by simp; omega
          have h40 : decide (40 ≤ (l.length : Int)) = false := by simp; omega
          have CR : Hid (cr l = ((l ++ [0]).set i 0).set (i + 1) 1) := hid (by
            rw [cr_last l (by omega) (by omega), FI, List.set_append_left _ _ (by omega), List.set_append_right _ _ (by simp; omega)]
            simp [hc])
          have CL : Hid ((cr l).length = l.length + 1) := hid (by rw [CR.out]; simp)
          have HX : Hid ((l ++ [0])[i + 1]? = some 0) := hid (by rw [hc]; simp)
          obtain ⟨ti, hti, hz0, hz1, hz2⟩ := info_parts info3i
          have HT := hid hti
          have Z0 := hid hz0
          have Z1 := hid hz1
          have Z2 := hid hz2
          have HC := hid hc
          have HY : Hid ((l ++ [0])[i]? = some 2) := hid (by rw [List.getElem?_append_left hlt]; exact hy)
          clear hti hz0 hz1 hz2 hy FI HI hc
          go_upto_region 11 with (at_builtin; (refine wpList_append_lies _ rfl (.tmp 29) (.tmp 30) 24 rfl w.heap.size 3 ti _ 1 8 Try.underlying24 HT.out Z0.out Z1.out Z2.out rfl (by decide) (.slice (some ⟨g, 0, none⟩) l.length vc) l.length (row int1 l) rfl (World.ownsRow.alloc O1.out _) ⟨w1.heap.size, 0, none⟩ 1 1 (int1 0) rfl rfl (World.news_of_block (heap_alloc_new w1 _)) (int1_one _) (by decide) (by simp [maxLen]; omega) (by omega) (by have := B1.out.size; simp; omega) (w1.heap.size + 1) (by simp) ?_; intro g9 cap9 w9 ho hgr hat hlt9; have B9 := hid (below_grown (w0 := w) (World.ownsRow.alloc O1.out _) hgr (alloc_below B1.out _)); have O9 : Hid (w9.ownsRow w.heap.size 3 1 (.slice (some ⟨g9, 0, none⟩) (l.length + 1) cap9) (l.length + 1) (row int1 (l ++ [0]))) := hid (by rw [row_snoc]; exact ho); clear ho hgr hat hlt9 c1))
          clear hc' h40
          have hlt1 : (i : Int) < (l.length : Int) + 1 := by omega
          have hlt2 : (i : Int) + 1 < (l.length : Int) + 1 := by have := HC.out; omega
          have hp : (0 : Int) < (l.length : Int) + 1 := by omega
          have hne : ((l.length : Int) + 1 == 0) = false := by simp; omega
          have hl2 : i + 1 ≤ l.length := Nat.le_of_eq HC.out
          have c1 : w9.cell? ⟨g9, i, none⟩ = some (.int .i64 2) := own_cell O9.out i 2 (by omega) HY.out
          clear hlt hlt'
          have z1 : w9.frozen? ⟨g9, i, none⟩ = false := O9.out.frozenAt _
          have hg1 : g9 < w9.heap.size := ((O9.out.lt g9 rfl)).2
          have hgb : w.heap.size ≤ g9 := ((O9.out.lt g9 rfl)).1
          go_upto_region 12 with fail
          obtain ⟨w2, hw2⟩ : ∃ w2, w2 = w9.setCell ⟨g9, i, none⟩ (.int .i64 0) := ⟨_, rfl⟩
          rw [← hw2]
          have O2 := hid (own_store O9.out i 0)
          have B2 := hid (below_store (p := ⟨g9, i, none⟩) (u := .int .i64 0) B9.out hgb)
          rw [← hw2] at O2 B2
          have c2 : w2.cell? ⟨g9, i + 1, none⟩ = some (.int .i64 0) := own_cell O2.out (i + 1) _ (by omega) (by rw [List.getElem?_set_ne (by omega)]; exact HX.out)
          have z2 : w2.frozen? ⟨g9, i + 1, none⟩ = false := O2.out.frozenAt _
          have hg2 : g9 < w2.heap.size := ((O2.out.lt g9 rfl)).2
          clear hw2 z1 hg1
          go_upto_region 14 with fail
          obtain ⟨w3, hw3⟩ : ∃ w3, w3 = w2.setCell ⟨g9, i + 1, none⟩ (.int .i64 (1)) := ⟨_, rfl⟩
          rw [← hw3]
          have O3 := hid (own_store O2.out (i + 1) (1))
          have B3 := hid (below_store (p := ⟨g9, i + 1, none⟩) (u := .int .i64 (1)) B2.out hgb)
          rw [← hw3, ← CR.out] at O3
          rw [← hw3] at B3
          obtain ⟨y, hy⟩ : ∃ y, (cr l)[0]? = some y := ⟨_, List.getElem?_eq_getElem (by have := CL.out; omega)⟩
          have hy2 := HD2.out y (List.mem_of_getElem? hy)
          have c3 : w3.cell? ⟨g9, 0, none⟩ = some (.int .i64 y) := own_cell O3.out 0 _ (by omega) hy
          have z3 : w3.frozen? ⟨g9, 0, none⟩ = false := O3.out.frozenAt _
          have hg3 : g9 < w3.heap.size := ((O3.out.lt g9 rfl)).2
          have UP := hid (up_set hy)
          clear hw3 c2 z2 hg2 hy
          go_wp2
          go_ret3
          have O4 := own_store O3.out 0 (y + 1)
          rw [← UP.out] at O4
          exact ⟨_, by rw [CQ.out]; rfl, by unfold Own; rw [show (up (cr l)).length = l.length + 1 from by rw [UP.out, List.length_set]; exact CL.out]; exact O4, below_store (p := ⟨g9, 0, none⟩) B3.out hgb⟩
        · have hc' : ((i : Int) + 1 == (l.length : Int)) = false := by simp; omega
          obtain ⟨x, hx⟩ : ∃ x, l[i + 1]? = some x := ⟨_, List.getElem?_eq_getElem (by omega)⟩
          have hx2 := rg_mem _ _ HR.out x (List.mem_of_getElem? hx)
          have CR : Hid (cr l = (l.set i 0).set (i + 1) (x + 1)) := hid (by rw [cr_mid l x (by rw [FI]; exact hx), FI])
          have CL : Hid ((cr l).length = l.length) := hid (by rw [CR.out]; simp)
          have HX := hid hx
          have hlt2 : (i : Int) + 1 < (l.length : Int) := by omega
          have hp : (0 : Int) < (l.length : Int) := by omega
          have hne : ((l.length : Int) == 0) = false := by rw [beq_eq_false_iff_ne]; omega
          clear hy FI HI hx
          have z1 : w1.frozen? ⟨g, i, none⟩ = false := O1.out.frozenAt _
          have hg1 : g < w1.heap.size := ((O1.out.lt g rfl)).2
          have hgb : w.heap.size ≤ g := ((O1.out.lt g rfl)).1
          go_upto_region 12 with fail
          obtain ⟨w2, hw2⟩ : ∃ w2, w2 = w1.setCell ⟨g, i, none⟩ (.int .i64 0) := ⟨_, rfl⟩
          rw [← hw2]
          have O2 := hid (own_store O1.out i 0)
          have B2 := hid (below_store (p := ⟨g, i, none⟩) (u := .int .i64 0) B1.out hgb)
          rw [← hw2] at O2 B2
          have c2 : w2.cell? ⟨g, i + 1, none⟩ = some (.int .i64 x) := own_cell O2.out (i + 1) _ (by omega) (by rw [List.getElem?_set_ne (by omega)]; exact HX.out)
          have z2 : w2.frozen? ⟨g, i + 1, none⟩ = false := O2.out.frozenAt _
          have hg2 : g < w2.heap.size := ((O2.out.lt g rfl)).2
          clear hw2 z1 hg1
          go_upto_region 14 with fail
          obtain ⟨w3, hw3⟩ : ∃ w3, w3 = w2.setCell ⟨g, i + 1, none⟩ (.int .i64 (x + 1)) := ⟨_, rfl⟩
          rw [← hw3]
          have O3 := hid (own_store O2.out (i + 1) (x + 1))
          have B3 := hid (below_store (p := ⟨g, i + 1, none⟩) (u := .int .i64 (x + 1)) B2.out hgb)
          rw [← hw3, ← CR.out] at O3
          rw [← hw3] at B3
          obtain ⟨y, hy⟩ : ∃ y, (cr l)[0]? = some y := ⟨_, List.getElem?_eq_getElem (by have := CL.out; omega)⟩
          have hy2 := HD2.out y (List.mem_of_getElem? hy)
          have c3 : w3.cell? ⟨g, 0, none⟩ = some (.int .i64 y) := own_cell O3.out 0 _ (by omega) hy
          have z3 : w3.frozen? ⟨g, 0, none⟩ = false := O3.out.frozenAt _
          have hg3 : g < w3.heap.size := ((O3.out.lt g rfl)).2
          have UP := hid (up_set hy)
          clear hw3 c2 z2 hg2 hy
          go_wp2
          go_ret3
          have O4 := own_store O3.out 0 (y + 1)
          rw [← UP.out] at O4
          exact ⟨_, by rw [CQ.out]; rfl, by unfold Own; rw [show (up (cr l)).length = l.length from by rw [UP.out, List.length_set]; exact CL.out]; exact O4, below_store (p := ⟨g, 0, none⟩) B3.out hgb⟩
      · have y2' : (y != 2) = true := by simp [y2]
        have HN := hid (fi_lt HI.out hy y2)
        clear y2 hy
        go_wp2
        go_roundw
        case rel => exact ⟨i + 1, rfl, rfl, by go_num, by omega, HN, trivial⟩
        case measure => simp [intOf]; omega
    · have FI : fi l = l.length := by have := HI.out; have := fi_le l; omega
      have CQ : Hid (cq l = 0) := hid (if_neg (by omega))
      have CR : Hid (cr l = l) := hid (cr_none l (by omega))
      by_cases h0 : l = []
      · subst h0
        simp only [List.length_nil] at *
        clear FI HI O1 hlt hi
        go_wp2
        go_ret3
        exact ⟨_, by rw [CQ.out]; rfl, by have := World.ownsRow_lit (base := w.heap.size) (e := 3) (size := 1) w1 (row int1 [1]).toArray 1 (B1.out.size) (by unfold maxLen; omega) (by simp [row, int1]); simpa [Own, row, up, cr, int1] using this, alloc_below B1.out _⟩
      · obtain ⟨g, cap, e, _, hg⟩ := O1.out.form (List.length_pos_iff.2 h0)
        cases e
        have hp0 := List.length_pos_iff.2 h0
        obtain ⟨y, hy⟩ : ∃ y, l[0]? = some y := ⟨_, List.getElem?_eq_getElem hp0⟩
        have hy2 := rg_mem _ _ HR.out y (List.mem_of_getElem? hy)
        have c3 : w1.cell? ⟨g, 0, none⟩ = some (.int .i64 y) := own_cell O1.out 0 _ hp0 hy
        have z3 : w1.frozen? ⟨g, 0, none⟩ = false := O1.out.frozenAt _
        have hgb : w.heap.size ≤ g := (O1.out.lt g rfl).1
        have hp : (0 : Int) < (l.length : Int) := by omega
        have hne : ((l.length : Int) == 0) = false := by rw [beq_eq_false_iff_ne]; omega
        have hlt' : ¬ (i : Int) < (l.length : Int) := by omega
        have UP := hid (up_set hy)
        clear hy FI HI h0
        go_wp2
        go_ret3
        have O4 := own_store O1.out 0 (y + 1)
        rw [← UP.out] at O4
        exact ⟨_, by rw [CQ.out]; rfl, by rw [CR.out]; unfold Own; rw [show (up l).length = l.length from by rw [UP.out, List.length_set]]; exact O4, below_store (p := ⟨g, 0, none⟩) B1.out hgb⟩
end Go.Proofs.Ytlckfnnjplclmaa
