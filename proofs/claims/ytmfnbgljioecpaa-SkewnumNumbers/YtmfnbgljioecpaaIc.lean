/- The walks of Inc, Dec and of the reference's. -/
import Derived.Test.YtmfnbgljioecpaaCc
namespace Go.Proofs.Ytmfnbgljioecpaa
open Go.ChangeShapes Go.WideShapes Go.ChangeAt Go.RowKit

open Classical in
noncomputable def incF (l : List Int) : List Int := if R l ∧ l.take 2 ≠ [28, 28] then incS l else []
open Classical in
noncomputable def decF (l : List Int) : List Int := if R l then decS l else []

/-- a piece of what lies in memory -/
theorem Lst.tail {w : World} {b off c : Nat} {l : List Int} (k : Nat) (hk : k ≤ l.length) (hc : l.length ≤ c) (hm : c ≤ maxLen) (hb : b < w.heap.size) (h : ∀ (i : Nat) (x : Int), l[i]? = some x → w.cell? ⟨b, off + i, none⟩ = some (.int .i64 x)) :
    Lst w (.slice (some ⟨b, off + k, none⟩) (l.length - k) (c - k)) (l.drop k) := by
  refine ⟨_, _, by rw [List.length_drop], by rw [List.length_drop]; omega, by omega, (fun e => by cases e), Or.inr ⟨b, off + k, rfl, hb, fun i x hx => ?_⟩⟩
  rw [List.getElem?_drop] at hx
  rw [Nat.add_assoc]
  exact h _ _ hx
theorem Lst.off {w : World} {l : List Int} (a : Option Addr) (c : Nat) (hl : l = []) (hc : c ≤ maxLen) (ha : a = none → c = 0) : Lst w (.slice a 0 c) l := by
  subst hl
  exact ⟨a, c, rfl, Nat.zero_le _, hc, ha, Or.inl rfl⟩

/-- two lists in the call's own boxes -/
theorem two_boxes {w : World} {v1 v2 : Value} {l1 l2 : List Int} {ga : Nat} {T : TypeId} (h1 : Lst w v1 l1) (h2 : Lst w v2 l2) (hg : w.heap[ga]? = some (.cells #[v1, v2] T (0, 0))) :
    ∀ (i : Nat) (v : Value) (l : List Int), [v1, v2][i]? = some v → [l1, l2][i]? = some l → w.cell? ⟨ga, i, none⟩ = some v ∧ Lst w v l := by
  intro i v l hi hl
  match i, hi, hl with
  | 0, hi, hl => simp at hi hl; subst hi; subst hl; exact ⟨blk_cell hg rfl, h1⟩
  | 1, hi, hl => simp at hi hl; subst hi; subst hl; exact ⟨blk_cell hg rfl, h2⟩
theorem one_box {w : World} {v1 : Value} {l1 : List Int} {ga : Nat} {T : TypeId} (h1 : Lst w v1 l1) (hg : w.heap[ga]? = some (.cells #[v1] T (0, 0))) :
    ∀ (i : Nat) (v : Value) (l : List Int), [v1][i]? = some v → [l1][i]? = some l → w.cell? ⟨ga, i, none⟩ = some v ∧ Lst w v l := by
  intro i v l hi hl
  match i, hi, hl with
  | 0, hi, hl => simp at hi hl; subst hi; subst hl; exact ⟨blk_cell hg rfl, h1⟩
theorem concat2 {w : World} {v1 v2 : Value} {l1 l2 : List Int} {ga : Nat} {T : TypeId} (h1 : Lst w v1 l1) (h2 : Lst w v2 l2) (hg : w.heap[ga]? = some (.cells #[v1, v2] T (0, 0))) (hl : l1.length + l2.length ≤ 1000) :
    Calls Try.prog 19 #[.slice (some ⟨ga, 0, none⟩) 2 2] w fun e w' => ∃ v, e = .returned v ∧ Own w' w.heap.size v (l1 ++ l2) ∧ Below w.heap.size w w' := by
  have := concat_any ga [v1, v2] [l1, l2] w (lt_of_block hg) rfl (two_boxes h1 h2 hg) (by simp; omega) (by simp)
  simpa using this
theorem concat1 {w : World} {v1 : Value} {l1 : List Int} {ga : Nat} {T : TypeId} (h1 : Lst w v1 l1) (hg : w.heap[ga]? = some (.cells #[v1] T (0, 0))) (hl : l1.length ≤ 1000) :
    Calls Try.prog 19 #[.slice (some ⟨ga, 0, none⟩) 1 1] w fun e w' => ∃ v, e = .returned v ∧ Own w' w.heap.size v l1 ∧ Below w.heap.size w w' := by
  have := concat_any ga [v1] [l1] w (lt_of_block hg) rfl (one_box h1 hg) (by simp; omega) (by simp)
  simpa using this
/-- a list that was just laid -/
theorem lst_lit {w : World} {g : Nat} {T : TypeId} (l : List Int) (hl : l.length ≤ 1000) (hg : w.heap[g]? = some (.cells (row int1 l).toArray T (0, 0))) : Lst w (.slice (some ⟨g, 0, none⟩) l.length l.length) l :=
  ⟨_, _, rfl, Nat.le_refl _, by unfold maxLen; omega, (fun e => by cases e), Or.inr ⟨g, 0, rfl, lt_of_block hg, fun i x hx => blk_cell hg (by rw [Nat.zero_add]; simp [int1_at, hx])⟩⟩

/-- a literal and a list, joined -/
theorem concat_lit (w : World) (m : Nat) (l0 l2 : List Int) (v2 : Value) (cs : Array Value) (hcs : cs = (row int1 l0).toArray) (h2 : Lst w v2 l2) (hl : l0.length + l2.length ≤ 1000) :
    Calls Try.prog 19 #[.slice (some ⟨w.heap.size + 1, 0, none⟩) 2 2] (((w.drewN m).alloc (.cells cs 3)).alloc (.cells #[.slice (some ⟨w.heap.size, 0, none⟩) l0.length l0.length, v2] 22))
      fun e w' => ∃ v, e = .returned v ∧ Own w' w.heap.size v (l0 ++ l2) ∧ Below w.heap.size w w' := by
  subst hcs
  have hb : Below w.heap.size w (((w.drewN m).alloc (.cells (row int1 l0).toArray 3)).alloc (.cells #[.slice (some ⟨w.heap.size, 0, none⟩) l0.length l0.length, v2] 22)) :=
    ((below_drewN (Below.refl _ _) m).alloc (Nat.le_refl _) _).alloc (by simp) _
  have hg : ((w.drewN m).alloc (.cells (row int1 l0).toArray 3)).heap[w.heap.size]? = some (.cells (row int1 l0).toArray 3 (0, 0)) := heap_alloc_new (w.drewN m) _
  have hg' : (((w.drewN m).alloc (.cells (row int1 l0).toArray 3)).alloc (.cells #[.slice (some ⟨w.heap.size, 0, none⟩) l0.length l0.length, v2] 22)).heap[w.heap.size]? = some (.cells (row int1 l0).toArray 3 (0, 0)) :=
    (Below.heap_alloc _ _ _ (lt_of_block hg)).trans hg
  have hg2 : (((w.drewN m).alloc (.cells (row int1 l0).toArray 3)).alloc (.cells #[.slice (some ⟨w.heap.size, 0, none⟩) l0.length l0.length, v2] 22)).heap[w.heap.size + 1]? = some (.cells #[.slice (some ⟨w.heap.size, 0, none⟩) l0.length l0.length, v2] 22 (0, 0)) := by
    have := heap_alloc_new ((w.drewN m).alloc (.cells (row int1 l0).toArray 3)) (.cells #[.slice (some ⟨w.heap.size, 0, none⟩) l0.length l0.length, v2] 22)
    simpa using this
  refine (concat2 (lst_lit l0 (by omega) hg') (h2.below hb) hg2 hl).mono ?_
  rintro e w' ⟨v, he, ho, hb'⟩
  exact ⟨v, he, ho.base hb.size, hb.trans (hb'.mono hb.size)⟩
theorem concat_one (w : World) (m : Nat) (l2 : List Int) (v2 : Value) (h2 : Lst w v2 l2) (hl : l2.length ≤ 1000) :
    Calls Try.prog 19 #[.slice (some ⟨w.heap.size, 0, none⟩) 1 1] ((w.drewN m).alloc (.cells #[v2] 22))
      fun e w' => ∃ v, e = .returned v ∧ Own w' w.heap.size v l2 ∧ Below w.heap.size w w' := by
  have hb : Below w.heap.size w ((w.drewN m).alloc (.cells #[v2] 22)) := (below_drewN (Below.refl _ _) m).alloc (Nat.le_refl _) _
  refine (concat1 (h2.below hb) (heap_alloc_new (w.drewN m) _) hl).mono ?_
  rintro e w' ⟨v, he, ho, hb'⟩
  exact ⟨v, he, ho.base hb.size, hb.trans (hb'.mono hb.size)⟩

set_option maxHeartbeats 2000000 in
theorem inc_any (v : Value) (l : List Int) (w : World) (h : Lst w v l) (hl : l.length ≤ 900) :
    Calls Try.prog 7 #[v] w fun e w' => ∃ v', e = .returned v' ∧ Own w' w.heap.size v' (incF l) ∧ Below w.heap.size w w' := by
  have RT := hid (right_any v l w h (by omega))
  have HW := hid h
  obtain ⟨a, c, rfl, h1, h2, h3, h4⟩ := h
  have H4 := hid h4
  clear h4 h3
  go_enter Try.func7, Try.ntmps7
  go_wp2_with fail
  refine RT.out.mono ?_
  rintro e w1 ⟨rfl, n, rfl⟩
  by_cases hr : R l
  · rw [rb_true.2 hr]
    have HR := hid hr
    clear hr RT
    by_cases h2l : (l.length : Int) < 2
    · have hd : decide ((l.length : Int) < 2) = true := by simp; omega
      have HE : Hid (incF l = [0] ++ l) := hid (by
        unfold incF
        match l, HR.out, h2l with
        | [], hr, _ => rw [if_pos ⟨hr, by simp⟩]; rfl
        | [x], hr, _ => rw [if_pos ⟨hr, by simp⟩]; rfl
        | _ :: _ :: _, hr, h => simp at h; omega)
      go_wp2_with fail
      go_quiet (fail)
      go_wp2_with fail
      refine (concat_lit w (n + nq) [0] l _ #[.int .i64 0] rfl HW.out (by simp; omega)).mono ?_
      rintro e w1 ⟨v', rfl, o1, b1⟩
      have O1 := hid o1
      have B1 := hid b1
      clear o1 b1
      go_wp2
      go_ret
      exact ⟨_, rfl, by rw [HE.out]; exact O1.out, B1.out⟩
    · have hd : decide ((l.length : Int) < 2) = false := by simp; omega
      have hx : l[0]? = some l[0] := List.getElem?_eq_getElem (by omega)
      have hy : l[1]? = some l[1] := List.getElem?_eq_getElem (by omega)
      generalize l[0] = x at hx
      generalize l[1] = y at hy
      rcases H4.out with e | ⟨b, off, rfl, hb, hc⟩
      · subst e; simp at hx
      have c1 : w.cell? ⟨b, off, none⟩ = some (.int .i64 x) := hc _ _ hx
      have c2 : w.cell? ⟨b, off + 1, none⟩ = some (.int .i64 y) := hc _ _ hy
      have nn := World.new_ne w _ c1
      obtain ⟨hx0, hx28⟩ := HR.out.1 x (List.mem_of_getElem? hx)
      have hwx : IntKind.i64.wrap (x + 1) = x + 1 := IntWalk.i64_in _ (by omega)
      have TL := hid (Lst.tail 2 (by omega) h1 h2 hb hc)
      have FM : Hid (∃ t, l = x :: y :: t) := hid (by
        match l, hx, hy with
        | _ :: _ :: t, hx, hy => simp at hx hy; exact ⟨t, by rw [hx, hy]⟩)
      unfold maxLen at h2
      have l0 : (0 : Int) < (l.length : Int) := by omega
      have l1 : (1 : Int) < (l.length : Int) := by omega
      have l2 : (2 : Int) ≤ (l.length : Int) := by omega
      clear hc hx hy H4
      by_cases hxy : x = y
      · have hn : (x != y) = false := by simp [hxy]
        have XY := hid hxy
        clear hxy
        by_cases h28 : x = 28
        · have h28' : (x == 28) = true := by simp [h28]
          have HE : Hid (incF l = []) := hid (by
            obtain ⟨t, e⟩ := FM.out
            unfold incF
            rw [if_neg]
            rintro ⟨_, h⟩
            apply h
            rw [e, ← XY.out, h28]; rfl)
          clear h28
          go_wp2_with fail
          go_quiet (fail)
          go_wp2
          go_ret
          exact ⟨_, rfl, by rw [HE.out]; exact Own.nil _ _, below_drewN (Below.refl _ _) (n + nq)⟩
        · have h28' : (x == 28) = false := by simp [h28]
          have HE : Hid (incF l = [x + 1] ++ l.drop 2) := hid (by
            obtain ⟨t, e⟩ := FM.out
            unfold incF
            rw [if_pos, e]
            · simp only [incS]; rw [if_pos XY.out]; rfl
            · refine ⟨HR.out, ?_⟩
              rw [e]; simp [h28])
          clear h28
          go_wp2_with fail
          go_quiet (fail)
          go_wp2_with fail
          by_cases hc2 : c = 2
          · have hl2 : l.length = 2 := by omega
            have TE := hid (Lst.off (w := w) (l := l.drop 2) (some ⟨b, off, none⟩) 0 (List.drop_eq_nil_of_le (by omega)) (Nat.zero_le _) (fun e => by cases e))
            have LL := hid hl2
            subst hc2
            rw [hl2] at l0 l1 l2 h1 ⊢
            clear hl2
            go_region_held3 (fun w' => w'.cell? ⟨b, off, none⟩ = some (.int .i64 x)) (go_keep)
              (first | (go_at_call 19; refine (concat_lit w _ [x + 1] (l.drop 2) _ #[.int .i64 (x + 1)] rfl (by exact TE.out) (by simp; omega)).mono ?_; rintro e w1 ⟨v', rfl, o1, b1⟩; have O1 := hid o1; have B1 := hid b1; have k1 := (b1.cell (p := ⟨b, off, none⟩) hb).trans c1; clear o1 b1))
            go_wp2
            go_ret
            exact ⟨_, rfl, by rw [HE.out]; exact O1.out, B1.out⟩
          · have n0 : 0 < l.length := by omega
            have n2 : 2 ≤ l.length := by omega
            have n3 : (l.length : Int) ≤ (c : Int) := by omega
            have n4 : (2 : Int) ≤ (c : Int) := by omega
            have n5 : ¬ c - 2 = 0 := by omega
            go_region_held3 (fun w' => w'.cell? ⟨b, off, none⟩ = some (.int .i64 x)) (go_keep)
              (first | (go_at_call 19; refine (concat_lit w _ [x + 1] (l.drop 2) _ #[.int .i64 (x + 1)] rfl (by exact TL.out) (by simp; omega)).mono ?_; rintro e w1 ⟨v', rfl, o1, b1⟩; have O1 := hid o1; have B1 := hid b1; have k1 := (b1.cell (p := ⟨b, off, none⟩) hb).trans c1; clear o1 b1))
            go_wp2
            go_ret
            exact ⟨_, rfl, by rw [HE.out]; exact O1.out, B1.out⟩
      · have hn : (x != y) = true := by simp [hxy]
        have HE : Hid (incF l = [0] ++ l) := hid (by
          obtain ⟨t, e⟩ := FM.out
          unfold incF
          rw [if_pos, e]
          · simp only [incS]; rw [if_neg hxy]; rfl
          · refine ⟨HR.out, ?_⟩
            rw [e]; simp; omega)
        clear hxy
        go_wp2_with fail
        go_quiet (fail)
        go_wp2_with fail
        refine (concat_lit w (n + nq) [0] l _ #[.int .i64 0] rfl HW.out (by simp; omega)).mono ?_
        rintro e w1 ⟨v', rfl, o1, b1⟩
        have O1 := hid o1
        have B1 := hid b1
        clear o1 b1
        go_wp2
        go_ret
        exact ⟨_, rfl, by rw [HE.out]; exact O1.out, B1.out⟩
  · rw [rb_false.2 hr]
    have HE : Hid (incF l = []) := hid (if_neg (fun e => hr e.1))
    clear hr RT H4
    go_wp2
    go_ret
    exact ⟨_, rfl, by rw [HE.out]; exact Own.nil _ _, below_drewN (Below.refl _ _) n⟩

set_option maxHeartbeats 2000000 in
theorem dec_any (v : Value) (l : List Int) (w : World) (h : Lst w v l) (hl : l.length ≤ 900) :
    Calls Try.prog 13 #[v] w fun e w' => ∃ v', e = .returned v' ∧ Own w' w.heap.size v' (decF l) ∧ Below w.heap.size w w' := by
  have RT := hid (right_any v l w h (by omega))
  obtain ⟨a, c, rfl, h1, h2, h3, h4⟩ := h
  by_cases h0 : l = []
  · subst h0
    have HE : Hid (decF [] = []) := hid (by unfold decF; split <;> rfl)
    simp only [List.length_nil] at *
    clear RT h4 h3
    go_enter Try.func13, Try.ntmps13
    go_wp2
    go_ret
    exact ⟨_, rfl, by rw [HE.out]; exact Own.nil _ _, Below.refl _ _⟩
  · have hp0 := List.length_pos_iff.2 h0
    have hx : l[0]? = some l[0] := List.getElem?_eq_getElem hp0
    generalize l[0] = x at hx
    rcases h4 with e | ⟨b, off, rfl, hb, hc⟩
    · exact absurd e h0
    have hp := List.length_pos_iff.2 h0
    have hp' : (0 : Int) < (l.length : Int) := by omega
    have hp2 : ((l.length : Int) == 0) = false := by simp; omega
    have c1 : w.cell? ⟨b, off, none⟩ = some (.int .i64 x) := hc _ _ hx
    have TL := hid (Lst.tail 1 (by omega) h1 h2 hb hc)
    have FM : Hid (∃ t, l = x :: t) := hid (by
      match l, hx with
      | _ :: t, hx => simp at hx; exact ⟨t, by rw [hx]⟩)
    have HX := hid hx
    unfold maxLen at h2
    clear hc h3 h0 hx
    go_enter Try.func13, Try.ntmps13
    go_wp2_with fail
    refine RT.out.mono ?_
    rintro e w1 ⟨rfl, n, rfl⟩
    by_cases hr : R l
    · rw [rb_true.2 hr]
      obtain ⟨hx0, hx28⟩ := hr.1 x (List.mem_of_getElem? HX.out)
      have hwx : IntKind.i64.wrap (x - 1) = x - 1 := IntWalk.i64_in _ (by omega)
      have HR := hid hr
      have b1 : (1 : Int) ≤ (l.length : Int) := by omega
      have b2 : (l.length : Int) ≤ (c : Int) := by omega
      have b3 : (1 : Int) ≤ (c : Int) := by omega
      clear hr RT
      obtain ⟨v2, hv2, TV⟩ : ∃ v2, (v2 = if (c : Nat) = 1 then Value.slice (some ⟨b, off, none⟩) (l.length - 1) (c - 1) else .slice (some ⟨b, off + 1, none⟩) (l.length - 1) (c - 1)) ∧ Hid (Lst w v2 (l.drop 1)) := by
        by_cases hc1 : c = 1
        · refine ⟨_, by rw [if_pos hc1], hid ?_⟩
          have := Lst.off (w := w) (l := l.drop 1) (some ⟨b, off, none⟩) (c - 1) (List.drop_eq_nil_of_le (by omega)) (by unfold maxLen; omega) (fun e => by cases e)
          rwa [show l.length - 1 = 0 by omega]
        · exact ⟨_, by rw [if_neg hc1], TL⟩
      by_cases x0 : x = 0
      · have x0' : (x == 0) = true := by simp [x0]
        have HE : Hid (decF l = l.drop 1) := hid (by
          obtain ⟨t, e⟩ := FM.out
          unfold decF
          rw [if_pos HR.out, e]; simp only [decS]; rw [if_pos x0]; rfl)
        clear x0
        by_cases hc1 : c = 1
        · skip
          have hl1 : l.length = 1 := by omega
          have TE := hid (Lst.off (w := w) (l := l.drop 1) (some ⟨b, off, none⟩) 0 (List.drop_eq_nil_of_le (by omega)) (Nat.zero_le _) (fun e => by cases e))
          subst hc1
          rw [hl1] at h1 hp hp' hp2 b1 b2 ⊢
          clear hl1 hv2 TV
          go_wp2_with fail
          refine (concat_one w n (l.drop 1) _ TE.out (by simp; omega)).mono ?_
          rintro e w1 ⟨v', rfl, o1, b1⟩
          have O1 := hid o1
          have B1 := hid b1
          clear o1 b1
          go_wp2
          go_ret
          exact ⟨_, rfl, by rw [HE.out]; exact O1.out, B1.out⟩
        · rw [if_neg hc1] at hv2
          subst hv2
          have hc1' : ¬ c - 1 = 0 := by omega
          go_wp2_with fail
          refine (concat_one w n (l.drop 1) _ TV.out (by simp; omega)).mono ?_
          rintro e w1 ⟨v', rfl, o1, b1⟩
          have O1 := hid o1
          have B1 := hid b1
          clear o1 b1
          go_wp2
          go_ret
          exact ⟨_, rfl, by rw [HE.out]; exact O1.out, B1.out⟩
      · have x0' : (x == 0) = false := by simp [x0]
        have HE : Hid (decF l = [x - 1, x - 1] ++ l.drop 1) := hid (by
          obtain ⟨t, e⟩ := FM.out
          unfold decF
          rw [if_pos HR.out, e]; simp only [decS]; rw [if_neg x0]; rfl)
        clear x0
        by_cases hc1 : c = 1
        · skip
          have hl1 : l.length = 1 := by omega
          have TE := hid (Lst.off (w := w) (l := l.drop 1) (some ⟨b, off, none⟩) 0 (List.drop_eq_nil_of_le (by omega)) (Nat.zero_le _) (fun e => by cases e))
          subst hc1
          rw [hl1] at h1 hp hp' hp2 b1 b2 ⊢
          clear hl1 hv2 TV
          go_wp2_with fail
          refine (concat_lit w n [x - 1, x - 1] (l.drop 1) _ #[.int .i64 (x - 1), .int .i64 (x - 1)] rfl TE.out (by simp; omega)).mono ?_
          rintro e w1 ⟨v', rfl, o1, b1⟩
          have O1 := hid o1
          have B1 := hid b1
          clear o1 b1
          go_wp2
          go_ret
          exact ⟨_, rfl, by rw [HE.out]; exact O1.out, B1.out⟩
        · rw [if_neg hc1] at hv2
          subst hv2
          have hc1' : ¬ c - 1 = 0 := by omega
          go_wp2_with fail
          refine (concat_lit w n [x - 1, x - 1] (l.drop 1) _ #[.int .i64 (x - 1), .int .i64 (x - 1)] rfl TV.out (by simp; omega)).mono ?_
          rintro e w1 ⟨v', rfl, o1, b1⟩
          have O1 := hid o1
          have B1 := hid b1
          clear o1 b1
          go_wp2
          go_ret
          exact ⟨_, rfl, by rw [HE.out]; exact O1.out, B1.out⟩
    · rw [rb_false.2 hr]
      have HE : Hid (decF l = []) := hid (if_neg hr)
      clear hr RT
      go_wp2
      go_ret
      exact ⟨_, rfl, by rw [HE.out]; exact Own.nil _ _, below_drewN (Below.refl _ _) n⟩
end Go.Proofs.Ytmfnbgljioecpaa
