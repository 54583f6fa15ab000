/- The walks of the reference's Inc and Dec. -/
import Derived.Test.YtmfnbgljioecpaaIc
namespace Go.Proofs.Ytmfnbgljioecpaa
open Go.ChangeShapes Go.WideShapes Go.ChangeAt Go.RowKit

theorem own_lit (w : World) (m : Nat) (l0 : List Int) (hl : l0.length ≤ 1000) (cs : Array Value) (hcs : cs = (row int1 l0).toArray) : ((w.drewN m).alloc (.cells cs 3)).ownsRow w.heap.size 3 1 (.slice (some ⟨w.heap.size, 0, none⟩) l0.length l0.length) l0.length (row int1 l0) := by
  subst hcs
  have := World.ownsRow_lit (base := w.heap.size) (e := 3) (size := 1) (w.drewN m) (row int1 l0).toArray l0.length (Nat.le_refl _) (by unfold maxLen; omega) (by simp [int1_row_len])
  simpa using this
theorem box_below (w : World) (m : Nat) (o : Obj) : Below w.heap.size w ((w.drewN m).alloc o) := (below_drewN (Below.refl _ _) m).alloc (Nat.le_refl _) _

set_option maxHeartbeats 2000000 in
theorem refInc_any (v : Value) (l : List Int) (w : World) (h : Lst w v l) (hl : l.length ≤ 900) :
    Calls Try.prog 22 #[v] w fun e w' => ∃ v' b, e = .returned (.tuple #[v', .bool b]) ∧ Own w' w.heap.size v' (incF l) ∧ Below w.heap.size w w' := by
  have RT := hid (refRight_any v l w h (by omega))
  have HW := hid h
  obtain ⟨a, c, rfl, h1, h2, h3, h4⟩ := h
  have H4 := hid h4
  clear h4 h3
  go_enter Try.func22, Try.ntmps22
  go_wp2_with fail
  refine RT.out.mono ?_
  rintro e w1 ⟨rfl, n, rfl⟩
  by_cases hr : R l
  · rw [rb_true.2 hr]
    have HR := hid hr
    clear hr RT
    by_cases h2l : 1 < (l.length : Int)
    · have hd : decide (1 < (l.length : Int)) = true := by simp; omega
      have hx : l[0]? = some l[0] := List.getElem?_eq_getElem (by omega)
      have hy : l[1]? = some l[1] := List.getElem?_eq_getElem (by omega)
      generalize l[0] = x at hx
      generalize l[1] = y at hy
      rcases H4.out with e | ⟨b, off, rfl, hb, hc⟩
      · subst e; simp at hx
      have c1 : w.cell? ⟨b, off, none⟩ = some (.int .i64 x) := hc _ _ hx
      have c2 : w.cell? ⟨b, off + 1, none⟩ = some (.int .i64 y) := hc _ _ hy
      have nn := World.new_ne w _ c1
      obtain ⟨hx0, hx28⟩ := HR.out.1 x (List.mem_of_getElem? hx)
      have hwx : IntKind.i64.wrap (x + 1) = x + 1 := IntWalk.i64_in _ (by omega)
      have TL := hid (Lst.tail 2 (by omega) h1 h2 hb hc)
      have FM : Hid (∃ t, l = x :: y :: t) := hid (by
        match l, hx, hy with
        | _ :: _ :: t, hx, hy => simp at hx hy; exact ⟨t, by rw [hx, hy]⟩)
      unfold maxLen at h2
      have l0 : (0 : Int) < (l.length : Int) := by omega
      have l1 : (1 : Int) < (l.length : Int) := by omega
      have l2 : (2 : Int) ≤ (l.length : Int) := by omega
      clear hc hx hy H4
      by_cases hxy : x = y
      · have hn : (x == y) = true := by simp [hxy]
        have XY := hid hxy
        clear hxy
        by_cases h28 : x = 28
        · have h28' : (x == 28) = true := by simp [h28]
          have HE : Hid (incF l = []) := hid (by
            obtain ⟨t, e⟩ := FM.out
            unfold incF
            rw [if_neg]
            rintro ⟨_, h⟩
            apply h
            rw [e, ← XY.out, h28]; rfl)
          clear h28
          go_wp2_with fail
          go_quiet (fail)
          go_wp2
          go_ret2
          exact ⟨_, _, rfl, by rw [HE.out]; exact Own.nil _ _, below_drewN (Below.refl _ _) (n + nq)⟩
        · have h28' : (x == 28) = false := by simp [h28]
          have HE : Hid (incF l = [x + 1] ++ l.drop 2) := hid (by
            obtain ⟨t, e⟩ := FM.out
            unfold incF
            rw [if_pos, e]
            · simp only [incS]; rw [if_pos XY.out]; rfl
            · refine ⟨HR.out, ?_⟩
              rw [e]; simp [h28])
          clear h28
          go_wp2_with fail
          go_quiet (fail)
          go_wp2_with fail
          by_cases hc2 : c = 2
          · have hl2 : l.length = 2 := by omega
            have TE := hid (Lst.off (w := w) (l := l.drop 2) (some ⟨b, off, none⟩) 0 (List.drop_eq_nil_of_le (by omega)) (Nat.zero_le _) (fun e => by cases e))
            have LL := hid hl2
            subst hc2
            rw [hl2] at l0 l1 l2 h1 ⊢
            clear hl2
            go_region_held3 (fun w' => w'.cell? ⟨b, off, none⟩ = some (.int .i64 x)) (go_keep)
              (first | (refine step_append_lst rfl (.tmp 27) (.tmp 29) rfl w.heap.size _ _ 1 (row int1 [x + 1]) (l.drop 2) rfl rfl (by exact own_lit w _ [x + 1] (by simp) _ rfl) (by exact TE.out.below (box_below w _ _)) (by simp; omega) (by simp) ?_; intro v1 w1 o1 g1; have B1 := hid (below_grown (w0 := w) (own_lit w _ [x + 1] (by simp) _ rfl) g1 (box_below w _ _)); have O1 := hid o1; have k1 := (B1.out.cell (p := ⟨b, off, none⟩) hb).trans c1; clear o1 g1))
            go_wp2
            go_ret2
            exact ⟨_, _, rfl, by rw [HE.out]; unfold Own; rw [row_append, List.length_append]; exact O1.out, B1.out⟩
          · have n0 : 0 < l.length := by omega
            have n2 : 2 ≤ l.length := by omega
            have n3 : (l.length : Int) ≤ (c : Int) := by omega
            have n4 : (2 : Int) ≤ (c : Int) := by omega
            have n5 : ¬ c - 2 = 0 := by omega
            go_region_held3 (fun w' => w'.cell? ⟨b, off, none⟩ = some (.int .i64 x)) (go_keep)
              (first | (refine step_append_lst rfl (.tmp 27) (.tmp 29) rfl w.heap.size _ _ 1 (row int1 [x + 1]) (l.drop 2) rfl rfl (by exact own_lit w _ [x + 1] (by simp) _ rfl) (by exact TL.out.below (box_below w _ _)) (by simp; omega) (by simp) ?_; intro v1 w1 o1 g1; have B1 := hid (below_grown (w0 := w) (own_lit w _ [x + 1] (by simp) _ rfl) g1 (box_below w _ _)); have O1 := hid o1; have k1 := (B1.out.cell (p := ⟨b, off, none⟩) hb).trans c1; clear o1 g1))
            go_wp2
            go_ret2
            exact ⟨_, _, rfl, by rw [HE.out]; unfold Own; rw [row_append, List.length_append]; exact O1.out, B1.out⟩
      · have hn : (x == y) = false := by simp [hxy]
        have HE : Hid (incF l = [0] ++ l) := hid (by
          obtain ⟨t, e⟩ := FM.out
          unfold incF
          rw [if_pos, e]
          · simp only [incS]; rw [if_neg hxy]; rfl
          · refine ⟨HR.out, ?_⟩
            rw [e]; simp; omega)
        clear hxy
        go_wp2_with fail
        go_quiet (fail)
        go_wp2_with (at_builtin; refine wpList_append_lst rfl (.tmp 31) (.tmp 32) rfl w.heap.size _ _ 1 (row int1 [0]) l rfl rfl (by exact own_lit w (n + nq) [0] (by simp) _ rfl) (by exact HW.out.below (box_below w (n + nq) _)) (by omega) (by simp) ?_; intro v1 w1 o1 g1; have B1 := hid (below_grown (w0 := w) (own_lit w (n + nq) [0] (by simp) _ rfl) g1 (box_below w (n + nq) _)); have O1 := hid o1; clear o1 g1)
        go_ret2
        exact ⟨_, _, rfl, by rw [HE.out]; unfold Own; rw [row_append, List.length_append]; exact O1.out, B1.out⟩
    · have hd : decide (1 < (l.length : Int)) = false := by simp; omega
      have HE : Hid (incF l = [0] ++ l) := hid (by
        unfold incF
        match l, HR.out, h2l with
        | [], hr, _ => rw [if_pos ⟨hr, by simp⟩]; rfl
        | [x], hr, _ => rw [if_pos ⟨hr, by simp⟩]; rfl
        | _ :: _ :: _, hr, h => simp at h; omega)
      clear H4
      go_wp2_with fail
      go_quiet (fail)
      go_wp2_with (at_builtin; refine wpList_append_lst rfl (.tmp 31) (.tmp 32) rfl w.heap.size _ _ 1 (row int1 [0]) l rfl rfl (by exact own_lit w (n + nq) [0] (by simp) _ rfl) (by exact HW.out.below (box_below w (n + nq) _)) (by omega) (by simp) ?_; intro v1 w1 o1 g1; have B1 := hid (below_grown (w0 := w) (own_lit w (n + nq) [0] (by simp) _ rfl) g1 (box_below w (n + nq) _)); have O1 := hid o1; clear o1 g1)
      go_ret2
      exact ⟨_, _, rfl, by rw [HE.out]; unfold Own; rw [row_append, List.length_append]; exact O1.out, B1.out⟩
  · rw [rb_false.2 hr]
    have HE : Hid (incF l = []) := hid (if_neg (fun e => hr e.1))
    clear hr RT H4
    go_wp2
    go_ret2
    exact ⟨_, _, rfl, by rw [HE.out]; exact Own.nil _ _, below_drewN (Below.refl _ _) n⟩

set_option maxHeartbeats 2000000 in
theorem refDec_any (v : Value) (l : List Int) (w : World) (h : Lst w v l) (hl : l.length ≤ 900) :
    Calls Try.prog 23 #[v] w fun e w' => ∃ v' b, e = .returned (.tuple #[v', .bool b]) ∧ Own w' w.heap.size v' (decF l) ∧ Below w.heap.size w w' := by
  have RT := hid (refRight_any v l w h (by omega))
  obtain ⟨a, c, rfl, h1, h2, h3, h4⟩ := h
  by_cases h0 : l = []
  · subst h0
    have HE : Hid (decF [] = []) := hid (by unfold decF; split <;> rfl)
    have R0 : rb [] = true := rb_true.2 R_nil
    rw [R0] at RT
    simp only [List.length_nil] at *
    clear h4 h3 R0
    go_enter Try.func23, Try.ntmps23
    go_wp2_with fail
    refine RT.out.mono ?_
    rintro e w1 ⟨rfl, n, rfl⟩
    go_wp2
    go_ret2
    exact ⟨_, _, rfl, by rw [HE.out]; exact Own.nil _ _, below_drewN (Below.refl _ _) n⟩
  · have hp0 := List.length_pos_iff.2 h0
    have hx : l[0]? = some l[0] := List.getElem?_eq_getElem hp0
    generalize l[0] = x at hx
    rcases h4 with e | ⟨b, off, rfl, hb, hc⟩
    · exact absurd e h0
    have hp := List.length_pos_iff.2 h0
    have hp' : (0 : Int) < (l.length : Int) := by omega
    have hp2 : ((l.length : Int) == 0) = false := by simp; omega
    have c1 : w.cell? ⟨b, off, none⟩ = some (.int .i64 x) := hc _ _ hx
    have nn := World.new_ne w _ c1
    have TL := hid (Lst.tail 1 (by omega) h1 h2 hb hc)
    have FM : Hid (∃ t, l = x :: t) := hid (by
      match l, hx with
      | _ :: t, hx => simp at hx; exact ⟨t, by rw [hx]⟩)
    have HX := hid hx
    unfold maxLen at h2
    clear hc h3 h0 hx hp0
    go_enter Try.func23, Try.ntmps23
    go_wp2_with fail
    refine RT.out.mono ?_
    rintro e w1 ⟨rfl, n, rfl⟩
    by_cases hr : R l
    · rw [rb_true.2 hr]
      obtain ⟨hx0, hx28⟩ := hr.1 x (List.mem_of_getElem? HX.out)
      have hwx : IntKind.i64.wrap (x - 1) = x - 1 := IntWalk.i64_in _ (by omega)
      have HR := hid hr
      have b1 : (1 : Int) ≤ (l.length : Int) := by omega
      have b2 : (l.length : Int) ≤ (c : Int) := by omega
      have b3 : (1 : Int) ≤ (c : Int) := by omega
      clear hr RT
      by_cases x0 : x = 0
      · have x0' : (x == 0) = true := by simp [x0]
        have HE : Hid (decF l = l.drop 1) := hid (by
          obtain ⟨t, e⟩ := FM.out
          unfold decF
          rw [if_pos HR.out, e]; simp only [decS]; rw [if_pos x0]; rfl)
        clear x0
        by_cases hc1 : c = 1
        · have _z := True.intro
          clear _z
          have hl1 : l.length = 1 := by omega
          have TQ := hid (Lst.off (w := w) (l := l.drop 1) (some ⟨b, off, none⟩) 0 (List.drop_eq_nil_of_le (by omega)) (Nat.zero_le _) (fun e => by cases e))
          have LL := hid hl1
          subst hc1
          rw [hl1] at h1 hp hp' hp2 b1 b2 ⊢
          clear hl1
          go_wp2_with (at_builtin; refine wpList_append_lst rfl (.tmp 16) (.tmp 18) rfl w.heap.size _ _ 0 (row int1 []) (l.drop 1) rfl rfl (by exact own_lit w n [] (by simp) _ rfl) (by exact TQ.out.below (box_below w n _)) (by simp; omega) (by simp) ?_; intro v1 w1 o1 g1; have B1 := hid (below_grown (w0 := w) (own_lit w n [] (by simp) _ rfl) g1 (box_below w n _)); have O1 := hid o1; clear o1 g1)
          go_ret2
          exact ⟨_, _, rfl, by rw [HE.out]; have := O1.out; simpa [Own, row] using this, B1.out⟩
        · have _z := True.intro
          clear _z
          have hc1' : ¬ c - 1 = 0 := by omega
          have TQ := TL
          go_wp2_with (at_builtin; refine wpList_append_lst rfl (.tmp 16) (.tmp 18) rfl w.heap.size _ _ 0 (row int1 []) (l.drop 1) rfl rfl (by exact own_lit w n [] (by simp) _ rfl) (by exact TQ.out.below (box_below w n _)) (by simp; omega) (by simp) ?_; intro v1 w1 o1 g1; have B1 := hid (below_grown (w0 := w) (own_lit w n [] (by simp) _ rfl) g1 (box_below w n _)); have O1 := hid o1; clear o1 g1)
          go_ret2
          exact ⟨_, _, rfl, by rw [HE.out]; have := O1.out; simpa [Own, row] using this, B1.out⟩
      · have x0' : (x == 0) = false := by simp [x0]
        have HE : Hid (decF l = [x - 1, x - 1] ++ l.drop 1) := hid (by
          obtain ⟨t, e⟩ := FM.out
          unfold decF
          rw [if_pos HR.out, e]; simp only [decS]; rw [if_neg x0]; rfl)
        clear x0
        by_cases hc1 : c = 1
        · have _z := True.intro
          clear _z
          have hl1 : l.length = 1 := by omega
          have TQ := hid (Lst.off (w := w) (l := l.drop 1) (some ⟨b, off, none⟩) 0 (List.drop_eq_nil_of_le (by omega)) (Nat.zero_le _) (fun e => by cases e))
          have LL := hid hl1
          subst hc1
          rw [hl1] at h1 hp hp' hp2 b1 b2 ⊢
          clear hl1
          go_wp2_with fail
          go_region_held3 (fun w' => w'.cell? ⟨b, off, none⟩ = some (.int .i64 x)) (go_keep)
            (first | (refine step_append_lst rfl (.tmp 28) (.tmp 30) rfl w.heap.size _ _ 2 (row int1 [x - 1, x - 1]) (l.drop 1) rfl rfl (by exact own_lit w _ [x - 1, x - 1] (by simp) _ rfl) (by exact TQ.out.below (box_below w _ _)) (by simp; omega) (by simp) ?_; intro v1 w1 o1 g1; have B1 := hid (below_grown (w0 := w) (own_lit w _ [x - 1, x - 1] (by simp) _ rfl) g1 (box_below w _ _)); have O1 := hid o1; have k1 := (B1.out.cell (p := ⟨b, off, none⟩) hb).trans c1; clear o1 g1))
          go_wp2
          go_ret2
          exact ⟨_, _, rfl, by rw [HE.out]; unfold Own; rw [row_append, List.length_append]; exact O1.out, B1.out⟩
        · have _z := True.intro
          clear _z
          have hc1' : ¬ c - 1 = 0 := by omega
          have TQ := TL
          go_wp2_with fail
          go_region_held3 (fun w' => w'.cell? ⟨b, off, none⟩ = some (.int .i64 x)) (go_keep)
            (first | (refine step_append_lst rfl (.tmp 28) (.tmp 30) rfl w.heap.size _ _ 2 (row int1 [x - 1, x - 1]) (l.drop 1) rfl rfl (by exact own_lit w _ [x - 1, x - 1] (by simp) _ rfl) (by exact TQ.out.below (box_below w _ _)) (by simp; omega) (by simp) ?_; intro v1 w1 o1 g1; have B1 := hid (below_grown (w0 := w) (own_lit w _ [x - 1, x - 1] (by simp) _ rfl) g1 (box_below w _ _)); have O1 := hid o1; have k1 := (B1.out.cell (p := ⟨b, off, none⟩) hb).trans c1; clear o1 g1))
          go_wp2
          go_ret2
          exact ⟨_, _, rfl, by rw [HE.out]; unfold Own; rw [row_append, List.length_append]; exact O1.out, B1.out⟩
    · rw [rb_false.2 hr]
      have HE : Hid (decF l = []) := hid (if_neg hr)
      clear hr RT
      go_wp2
      go_ret2
      exact ⟨_, _, rfl, by rw [HE.out]; exact Own.nil _ _, below_drewN (Below.refl _ _) n⟩
end Go.Proofs.Ytmfnbgljioecpaa
