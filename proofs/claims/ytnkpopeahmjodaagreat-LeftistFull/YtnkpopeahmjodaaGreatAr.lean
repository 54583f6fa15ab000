/- The arena: how it lies in memory; the walks of Live, Len, Cells, Meter, Steps, step, at, may, read. -/
import Derived.Test.YtnkpopeahmjodaaGreatSt
namespace Go.Proofs.YtnkpopeahmjodaaGreat
open Go.ChangeShapes Go.WideShapes Go.ChangeAt Go.RowKit

/-- the ten numbers of a cell -/
def ten (x : ((Nat → Int) × Bool)) : List Value := [.int .i64 (x.1 0), .int .i64 (x.1 1), .int .i64 (x.1 2), .int .i64 (x.1 3), .int .i64 (x.1 4), .int .i64 (x.1 5), .int .i64 (x.1 6), .int .i64 (x.1 7), .int .i64 (x.1 8), .int .i64 (x.1 9)]
theorem ten_len : ∀ x, (ten x).length = 10 := fun _ => rfl
theorem ten_one : ∀ x, ∀ v ∈ ten x, v.oneCell' = true := fun x v h => by
  simp [ten] at h
  rcases h with rfl | rfl | rfl | rfl | rfl | rfl | rfl | rfl | rfl | rfl <;> rfl
theorem ten_get (x : ((Nat → Int) × Bool)) (j : Nat) (h : j < 10) : (ten x)[j]? = some (.int .i64 (x.1 j)) := by
  match j, h with
  | 0, _ => rfl
  | 1, _ => rfl
  | 2, _ => rfl
  | 3, _ => rfl
  | 4, _ => rfl
  | 5, _ => rfl
  | 6, _ => rfl
  | 7, _ => rfl
  | 8, _ => rfl
  | 9, _ => rfl
theorem ten_set (x : ((Nat → Int) × Bool)) (b : Bool) (j : Nat) (v : Int) (h : j < 10) : (ten x).set j (.int .i64 v) = ten (upd x.1 j v, b) := by
  match j, h with
  | 0, _ => rfl
  | 1, _ => rfl
  | 2, _ => rfl
  | 3, _ => rfl
  | 4, _ => rfl
  | 5, _ => rfl
  | 6, _ => rfl
  | 7, _ => rfl
  | 8, _ => rfl
  | 9, _ => rfl
/-- its mark -/
def mk8 (x : ((Nat → Int) × Bool)) : List Value := [.int .i8 (if x.2 = true then 1 else 0)]
theorem mk8_len : ∀ x, (mk8 x).length = 1 := fun _ => rfl
theorem mk8_one : ∀ x, ∀ v ∈ mk8 x, v.oneCell' = true := fun x v h => by simp [mk8] at h; subst h; rfl

/-- an arena in memory -/
structure RawA (w : World) (pa pm : Nat) (hv tv bv : Value) (s : St) : Prop where
  blk : w.heap[pa]? = some (.cells #[.int .i64 s.most, .pointer (some ⟨pm, 0, none⟩), hv, tv, bv] 63 (0, 0))
  met : w.heap[pm]? = some (.cells #[.int .i64 s.steps, .int .i64 0, .int .i64 0] 76 (0, 0))
  has : w.ownsRow 0 2 1 hv (s.pl.length * 10) (row ten s.pl)
  tak : w.ownsRow 0 74 1 tv s.pl.length (row mk8 s.pl)
  back : w.ownsRow 0 3 1 bv s.back.length (row nat1 s.back)

/-- an arena whose memory lies in F -/
def IsA (w : World) (F : Nat → Prop) (pa pm : Nat) (s : St) : Prop :=
  ∃ hv tv bv, RawA w pa pm hv tv bv s ∧ F pa ∧ F pm ∧ (∀ k, hv.ownBlock = some k → F k) ∧ (∀ k, tv.ownBlock = some k → F k) ∧ (∀ k, bv.ownBlock = some k → F k) ∧ (∀ k, F k → k < w.heap.size) ∧ Ok s

section
variable {w w' : World} {F G : Nat → Prop} {pa pm : Nat} {hv tv bv : Value} {s s' : St}
theorem RawA.cells (h : RawA w pa pm hv tv bv s) : pa < w.heap.size ∧ w.cell? ⟨pa, 0, none⟩ = some (.int .i64 s.most) ∧ w.cell? ⟨pa, 1, none⟩ = some (.pointer (some ⟨pm, 0, none⟩)) ∧ w.cell? ⟨pa, 2, none⟩ = some hv ∧ w.cell? ⟨pa, 3, none⟩ = some tv ∧ w.cell? ⟨pa, 4, none⟩ = some bv :=
  ⟨lt_of_block h.blk, blk_cell h.blk rfl, blk_cell h.blk rfl, blk_cell h.blk rfl, blk_cell h.blk rfl, blk_cell h.blk rfl⟩
theorem RawA.mcell (h : RawA w pa pm hv tv bv s) : pm < w.heap.size ∧ w.cell? ⟨pm, 0, none⟩ = some (.int .i64 s.steps) ∧ w.frozen? ⟨pm, 0, none⟩ = false := ⟨lt_of_block h.met, blk_cell h.met rfl, blk_free h.met⟩
theorem RawA.ne (h : RawA w pa pm hv tv bv s) : pa ≠ pm := fun e => by
  have h1 := h.blk
  rw [e, h.met] at h1
  injection h1 with h1
  injection h1 with _ h1 _
  exact absurd h1 (by decide)
theorem RawA.same (h : RawA w pa pm hv tv bv s) (h0 : w'.heap[pa]? = w.heap[pa]?) (h0' : w'.heap[pm]? = w.heap[pm]?) (h1 : ∀ k, hv.ownBlock = some k → w'.heap[k]? = w.heap[k]?) (h2 : ∀ k, tv.ownBlock = some k → w'.heap[k]? = w.heap[k]?) (h3 : ∀ k, bv.ownBlock = some k → w'.heap[k]? = w.heap[k]?) : RawA w' pa pm hv tv bv s :=
  ⟨h0.trans h.blk, h0'.trans h.met, own_same h.has h1, own_same h.tak h2, own_same h.back h3⟩
theorem RawA.plain (h : RawA w pa pm hv tv bv s) (k : Kept (fun _ => False) w w') : RawA w' pa pm hv tv bv s :=
  h.same (k.block pa (lt_of_block h.blk) fun e => e) (k.block pm (lt_of_block h.met) fun e => e) (fun i hi => k.block i (h.has.lt i hi).2 fun e => e) (fun i hi => k.block i (h.tak.lt i hi).2 fun e => e) (fun i hi => k.block i (h.back.lt i hi).2 fun e => e)
/-- its steps turned -/
theorem RawA.ticked (h : RawA w pa pm hv tv bv s) (n : Nat) : RawA (w.setCell ⟨pm, 0, none⟩ (.int .i64 n)) pa pm hv tv bv ⟨s.most, s.pl, s.back, n⟩ := by
  refine ⟨blk_other h.blk h.ne, ?_, ownsRow_setCell_other h.has (own_ne_block h.has h.met (by decide)) _, ownsRow_setCell_other h.tak (own_ne_block h.tak h.met (by decide)) _, ownsRow_setCell_other h.back (own_ne_block h.back h.met (by decide)) _⟩
  have := blk_set (j := 0) (u := .int .i64 n) h.met
  simpa using this
/-- a mark's cell -/
theorem RawA.mark (h : RawA w pa pm hv tv bv s) {i : Nat} {x : ((Nat → Int) × Bool)} (hx : s.pl[i]? = some x) :
    ∃ g cap, tv = .slice (some ⟨g, 0, none⟩) s.pl.length cap ∧ g < w.heap.size ∧ (∀ j, w.frozen? ⟨g, j, none⟩ = false) ∧ w.cell? ⟨g, i, none⟩ = some (.int .i8 (if x.2 = true then 1 else 0)) := own1_at h.tak mk8_len hx
/-- a number's cell -/
theorem RawA.num (h : RawA w pa pm hv tv bv s) {i j : Nat} {x : ((Nat → Int) × Bool)} (hx : s.pl[i]? = some x) (hj : j < 10) :
    ∃ g cap, hv = .slice (some ⟨g, 0, none⟩) (s.pl.length * 10) cap ∧ g < w.heap.size ∧ (∀ j, w.frozen? ⟨g, j, none⟩ = false) ∧ w.cell? ⟨g, i * 10 + j, none⟩ = some (.int .i64 (x.1 j)) := by
  have hi : i < s.pl.length := (List.getElem?_eq_some_iff.1 hx).1
  obtain ⟨g, cap, rfl, _, hg⟩ := h.has.form (by omega)
  refine ⟨g, cap, rfl, hg, fun j => h.has.frozenAt j, ?_⟩
  rw [h.has.cellAt (i * 10 + j) (by omega), row_get ten_len s.pl i j x hx hj, ten_get x j hj]
theorem ne_of_own {b1 b2 : Nat} {e1 e2 : TypeId} {s1 s2 : Nat} {v1 v2 : Value} {n1 n2 : Nat} {x1 x2 : List Value} (h1 : w.ownsRow b1 e1 s1 v1 n1 x1) (h2 : w.ownsRow b2 e2 s2 v2 n2 x2) (he : e1 ≠ e2) {g : Nat} (hg : v2.ownBlock = some g) : v1.ownBlock ≠ some g := by
  rcases own_ne h1 h2 he with q | q
  · rw [q]; simp
  · rw [← hg]; exact q
/-- a mark turned -/
theorem RawA.marked {g cap n : Nat} (h : RawA w pa pm hv (.slice (some ⟨g, 0, none⟩) n cap) bv s) {i : Nat} {x : ((Nat → Int) × Bool)} (hx : s.pl[i]? = some x) (b : Bool) {m : Int} (hm : m = if b = true then 1 else 0) :
    RawA (w.setCell ⟨g, i, none⟩ (.int .i8 m)) pa pm hv (.slice (some ⟨g, 0, none⟩) n cap) bv ⟨s.most, s.pl.set i (x.1, b), s.back, s.steps⟩ := by
  subst hm
  have hn : n = s.pl.length := by
    rcases h.tak.2 with ⟨e, _⟩ | ⟨g', cap', cur, e, _⟩
    · cases e
    · cases e; rfl
  subst hn
  have hne : (Value.slice (some ⟨g, 0, none⟩) s.pl.length cap).ownBlock ≠ some pa := own_ne_block h.tak h.blk (by decide)
  have hnm : (Value.slice (some ⟨g, 0, none⟩) s.pl.length cap).ownBlock ≠ some pm := own_ne_block h.tak h.met (by decide)
  have hs := (h.tak.stored i (.int .i8 (if b = true then 1 else 0))).1
  have hrow := row_set mk8_len s.pl i 0 x (x.1, b) (.int .i8 (if b = true then 1 else 0)) hx (by decide) rfl
  simp only [Nat.mul_one, Nat.add_zero] at hrow
  rw [hrow] at hs
  have ht : row ten (s.pl.set i (x.1, b)) = row ten s.pl := row_like _ _ _ _ hx rfl
  exact ⟨blk_other h.blk (fun e => hne (by rw [e]; rfl)), blk_other h.met (fun e => hnm (by rw [e]; rfl)), by simpa [ht] using ownsRow_setCell_other (a := ⟨g, i, none⟩) h.has (ne_of_own h.has h.tak (by decide) rfl) _, by simpa using hs, ownsRow_setCell_other (a := ⟨g, i, none⟩) h.back (ne_of_own h.back h.tak (by decide) rfl) _⟩
/-- a number turned -/
theorem RawA.stored {g cap n : Nat} (h : RawA w pa pm (.slice (some ⟨g, 0, none⟩) n cap) tv bv s) {i j o : Nat} {x : ((Nat → Int) × Bool)} (hx : s.pl[i]? = some x) (hj : j < 10) (ho : o = i * 10 + j) (v : Int) :
    RawA (w.setCell ⟨g, o, none⟩ (.int .i64 v)) pa pm (.slice (some ⟨g, 0, none⟩) n cap) tv bv ⟨s.most, s.pl.set i (upd x.1 j v, x.2), s.back, s.steps⟩ := by
  subst ho
  have hn : n = s.pl.length * 10 := by
    rcases h.has.2 with ⟨e, _⟩ | ⟨g', cap', cur, e, _⟩
    · cases e
    · cases e; rfl
  subst hn
  have hne : (Value.slice (some ⟨g, 0, none⟩) (s.pl.length * 10) cap).ownBlock ≠ some pa := own_ne_block h.has h.blk (by decide)
  have hnm : (Value.slice (some ⟨g, 0, none⟩) (s.pl.length * 10) cap).ownBlock ≠ some pm := own_ne_block h.has h.met (by decide)
  have hs := (h.has.stored (i * 10 + j) (.int .i64 v)).1
  rw [row_set ten_len s.pl i j x (upd x.1 j v, x.2) (.int .i64 v) hx hj (ten_set x x.2 j v hj)] at hs
  have ht : row mk8 (s.pl.set i (upd x.1 j v, x.2)) = row mk8 s.pl := row_like _ _ _ _ hx rfl
  exact ⟨blk_other h.blk (fun e => hne (by rw [e]; rfl)), blk_other h.met (fun e => hnm (by rw [e]; rfl)), by simpa using hs, by simpa [ht] using ownsRow_setCell_other (a := ⟨g, i * 10 + j, none⟩) h.tak (ne_of_own h.tak h.has (by decide) rfl) _, ownsRow_setCell_other (a := ⟨g, i * 10 + j, none⟩) h.back (ne_of_own h.back h.has (by decide) rfl) _⟩

theorem IsA.kept (h : IsA w F pa pm s) (k : Kept G w w') (hd : ∀ k, F k → ¬ G k) : IsA w' F pa pm s := by
  obtain ⟨hv, tv, bv, hr, h1, h2, h3, h4, h5, h6, ok⟩ := h
  have hb : ∀ i, F i → w'.heap[i]? = w.heap[i]? := fun i hi => k.block i (h6 i hi) (hd i hi)
  exact ⟨hv, tv, bv, hr.same (hb pa h1) (hb pm h2) (fun i hi => hb i (h3 i hi)) (fun i hi => hb i (h4 i hi)) (fun i hi => hb i (h5 i hi)), h1, h2, h3, h4, h5, fun i hi => Nat.lt_of_lt_of_le (h6 i hi) k.size, ok⟩
theorem IsA.lt (h : IsA w F pa pm s) : ∀ k, F k → k < w.heap.size := by
  obtain ⟨_, _, _, _, _, _, _, _, _, h6, _⟩ := h; exact h6
theorem IsA.ok (h : IsA w F pa pm s) : Ok s := by
  obtain ⟨_, _, _, _, _, _, _, _, _, _, ok⟩ := h; exact ok
theorem IsA.widen (h : IsA w F pa pm s) (hg : ∀ k, F k → G k) (hl : ∀ k, G k → k < w.heap.size) : IsA w G pa pm s := by
  obtain ⟨hv, tv, bv, hr, h1, h2, h3, h4, h5, h6, ok⟩ := h
  exact ⟨hv, tv, bv, hr, hg _ h1, hg _ h2, fun k hk => hg _ (h3 k hk), fun k hk => hg _ (h4 k hk), fun k hk => hg _ (h5 k hk), hl, ok⟩
theorem IsA.grow (h : IsA w F pa pm s) (k : Kept G w w') (hd : ∀ k, F k → ¬ G k) : IsA w' (Grow F w w') pa pm s :=
  (h.kept k hd).widen (fun _ e => Or.inl e) (Grow.lt h.lt k.size)
theorem IsA.drewN (h : IsA w F pa pm s) (n : Nat) : IsA (w.drewN n) F pa pm s := h.kept ((Kept.refl (fun _ => False) _).drewN _) fun _ _ e => e
end

set_option maxHeartbeats 1000000 in
theorem liveA (pa pm : Nat) (s : St) (F : Nat → Prop) (c : Int) (w : World) (h : IsA w F pa pm s) :
    Calls Tryz.prog 46 #[.pointer (some ⟨pa, 0, none⟩), .int .i64 c] w fun e w' => e = .returned (.bool (liveS s c)) ∧ w' = w := by
  obtain ⟨hv, tv, bv, hr, f1, f2, f3, f4, f5, f6, ok⟩ := h
  obtain ⟨hpa, h0, h1, h2, h3, h4⟩ := hr.cells
  have hlen : s.pl.length ≤ 65536 := Nat.le_trans ok.fits ok.top
  clear h0 h1 h2 h4 f1 f2 f3 f4 f5 f6 ok
  by_cases c1 : c < 0
  · have H := hid (live_neg (s := s) c1)
    have c1' : decide (0 ≤ c) = false := by simp; omega
    clear h3 hr
    go_enter Tryz.func46, Tryz.ntmps46
    go_wp2
    go_ret
    exact ⟨ret_bool H.out.symm, rfl⟩
  · have c1' : 0 ≤ c := by omega
    by_cases c2 : (s.pl.length : Int) ≤ c
    · have H := hid (live_far c2)
      obtain ⟨ta, tc, rfl⟩ := own_form hr.tak
      have c2' : decide (c < (s.pl.length : Int)) = false := by simp; omega
      clear hr c1
      generalize s.pl.length = n at *
      go_enter Tryz.func46, Tryz.ntmps46
      go_wp2
      go_ret
      exact ⟨ret_bool H.out.symm, rfl⟩
    · have hn1 : c.toNat < s.pl.length := by omega
      have hx : s.pl[c.toNat]? = some s.pl[c.toNat] := List.getElem?_eq_getElem hn1
      obtain ⟨g, cap, rfl, hg, _, hc⟩ := hr.mark hx
      have H := hid (live_at c1' hx)
      generalize s.pl[c.toNat] = x at hc H
      obtain ⟨xx, b⟩ := x
      have c2' : c < (s.pl.length : Int) := by omega
      have hgp : g ≠ pa := fun e => own_ne_block hr.tak hr.blk (by decide) (by rw [e]; rfl)
      clear hr hx c1 c2 hn1
      generalize s.pl.length = n at *
      cases b
      all_goals
        simp at hc
        go_enter Tryz.func46, Tryz.ntmps46
        go_wp2
        go_ret
        exact ⟨ret_bool H.out.symm, rfl⟩

theorem cellsA (pa pm : Nat) (s : St) (F : Nat → Prop) (w : World) (h : IsA w F pa pm s) :
    Calls Tryz.prog 33 #[.pointer (some ⟨pa, 0, none⟩)] w fun e w' => e = .returned (.int .i64 s.most) ∧ w' = w := by
  obtain ⟨hv, tv, bv, hr, f1, f2, f3, f4, f5, f6, ok⟩ := h
  obtain ⟨hpa, h0, h1, h2, h3, h4⟩ := hr.cells
  clear hr h1 h2 h3 h4 f1 f2 f3 f4 f5 f6 ok
  go_enter Tryz.func33, Tryz.ntmps33
  go_wp2
  go_ret
  exact ⟨rfl, rfl⟩
theorem meterA (pa pm : Nat) (s : St) (F : Nat → Prop) (w : World) (h : IsA w F pa pm s) :
    Calls Tryz.prog 17 #[.pointer (some ⟨pa, 0, none⟩)] w fun e w' => e = .returned (.pointer (some ⟨pm, 0, none⟩)) ∧ w' = w := by
  obtain ⟨hv, tv, bv, hr, f1, f2, f3, f4, f5, f6, ok⟩ := h
  obtain ⟨hpa, h0, h1, h2, h3, h4⟩ := hr.cells
  clear hr h0 h2 h3 h4 f1 f2 f3 f4 f5 f6 ok
  go_enter Tryz.func17, Tryz.ntmps17
  go_wp2
  go_ret
  exact ⟨rfl, rfl⟩
theorem stepsA (pa pm : Nat) (s : St) (F : Nat → Prop) (w : World) (h : IsA w F pa pm s) :
    Calls Tryz.prog 26 #[.pointer (some ⟨pm, 0, none⟩)] w fun e w' => e = .returned (.int .i64 s.steps) ∧ w' = w := by
  obtain ⟨hv, tv, bv, hr, f1, f2, f3, f4, f5, f6, ok⟩ := h
  obtain ⟨hpm, h0, _⟩ := hr.mcell
  clear hr f1 f2 f3 f4 f5 f6 ok
  go_enter Tryz.func26, Tryz.ntmps26
  go_wp2
  go_ret
  exact ⟨rfl, rfl⟩
set_option maxHeartbeats 1000000 in
theorem lenA (pa pm : Nat) (s : St) (F : Nat → Prop) (w : World) (h : IsA w F pa pm s) :
    Calls Tryz.prog 13 #[.pointer (some ⟨pa, 0, none⟩)] w fun e w' => e = .returned (.int .i64 (cnt s.pl)) ∧ ∃ n, w' = w.drewN n := by
  obtain ⟨hv, tv, bv, hr, f1, f2, f3, f4, f5, f6, ok⟩ := h
  obtain ⟨hpa, h0, h1, h2, h3, h4⟩ := hr.cells
  obtain ⟨ta, tc, rfl⟩ := own_form hr.tak
  obtain ⟨ba, bc, rfl⟩ := own_form hr.back
  have hlen : s.pl.length ≤ 65536 := Nat.le_trans ok.fits ok.top
  have H := hid ok.count
  have hb := ok.back_le
  clear hr h0 h1 h2 f1 f2 f3 f4 f5 f6 ok
  generalize s.pl.length = n at *
  generalize s.back.length = m at *
  go_enter Tryz.func13, Tryz.ntmps13
  go_wp2_with fail
  go_quiet (fail)
  go_wp2
  go_ret
  exact ⟨ret_int (by have := H.out; omega), _, rfl⟩

theorem addM (a : Nat) (ha : a ≤ 1000000000) (w : World) : Calls Tryz.prog 78 #[.int .i64 a, .int .i64 1] w fun e w' => e = .returned (.int .i64 ((a + 1 : Nat) : Int)) ∧ w' = w := by
  go_enter Tryz.func78, Tryz.ntmps78
  go_wp2
  go_ret
  exact ⟨ret_int (by omega), rfl⟩

set_option maxHeartbeats 1000000 in
theorem tickM (pm n : Nat) (hn : n ≤ 1000000000) (w : World) (hp : pm < w.heap.size) (h0 : w.cell? ⟨pm, 0, none⟩ = some (.int .i64 n)) (hf : w.frozen? ⟨pm, 0, none⟩ = false) :
    Calls Tryz.prog 64 #[.pointer (some ⟨pm, 0, none⟩), .int .i64 1] w fun e w' => e = .returned (.tuple #[]) ∧ ∃ d, w' = (w.drewN d).setCell ⟨pm, 0, none⟩ (.int .i64 ((n + 1 : Nat) : Int)) := by
  go_enter Tryz.func64, Tryz.ntmps64
  go_wp2_with fail
  refine (addM n hn w).mono ?_
  rintro e w1 ⟨rfl, rfl⟩
  obtain ⟨m, hm⟩ : ∃ m : Nat, n + 1 = m := ⟨_, rfl⟩
  rw [hm]
  have HM := hid hm
  clear hm
  go_wp2
  go_end0
  exact ⟨rfl, 0, by rw [HM.out]; rfl⟩

set_option maxHeartbeats 1000000 in
theorem stepA (pa pm : Nat) (s : St) (F : Nat → Prop) (w : World) (h : IsA w F pa pm s) (hs : s.steps ≤ 100000000) :
    Calls Tryz.prog 45 #[.pointer (some ⟨pa, 0, none⟩)] w fun e w' => e = .returned (.tuple #[]) ∧ IsA w' F pa pm (tick s) ∧ Kept F w w' := by
  have IS := hid h
  obtain ⟨hv, tv, bv, hr, f1, f2, f3, f4, f5, f6, ok⟩ := h
  obtain ⟨hpa, h0, h1, h2, h3, h4⟩ := hr.cells
  obtain ⟨hpm, m0, m1⟩ := hr.mcell
  have T := hid (tickM pm s.steps (by omega) w hpm m0 m1)
  have HR := hid hr
  clear hr h0 h2 h3 h4 f3 f4 f5 f6 ok m0 m1
  go_enter Tryz.func45, Tryz.ntmps45
  go_wp2_with fail
  refine T.out.mono ?_
  rintro e w1 ⟨rfl, d, rfl⟩
  clear T
  go_wp2
  go_end0
  obtain ⟨hv', tv', bv', hr', g1, g2, g3, g4, g5, g6, ok'⟩ := IS.out
  exact ⟨rfl, ⟨hv', tv', bv', (hr'.plain ((Kept.refl _ _).drewN d)).ticked (s.steps + 1), g1, g2, g3, g4, g5, fun k hk => by simpa [World.setCell] using g6 k hk, ok'.tick⟩, ((Kept.refl F w).drewN d).setCell (p := ⟨pm, 0, none⟩) (Or.inl g2) _⟩

set_option maxHeartbeats 1000000 in
theorem atA (c f : Int) (hc0 : 0 ≤ c) (hc : c ≤ 65536) (hf0 : 0 ≤ f) (hf : f ≤ 9) (w : World) :
    Calls Tryz.prog 73 #[.int .i64 c, .int .i64 f] w fun e w' => e = .returned (.int .i64 (c * 10 + f)) ∧ ∃ n, w' = w.drewN n := by
  go_enter Tryz.func73, Tryz.ntmps73
  go_wp2
  go_ret
  exact ⟨rfl, 0, rfl⟩

set_option maxHeartbeats 1000000 in
theorem mayA (pa pm : Nat) (s : St) (F : Nat → Prop) (c f : Int) (w : World) (h : IsA w F pa pm s) :
    Calls Tryz.prog 72 #[.pointer (some ⟨pa, 0, none⟩), .int .i64 c, .int .i64 f] w fun e w' => e = .returned (.bool (mayS s c f)) ∧ w' = w := by
  have L := hid (liveA pa pm s F c w h)
  clear h
  cases hl : liveS s c with
  | false =>
    rw [hl] at L
    have H := hid (may_not (f := f) hl)
    clear hl
    go_enter Tryz.func72, Tryz.ntmps72
    go_wp2_with fail
    refine L.out.mono ?_
    rintro e w1 ⟨rfl, rfl⟩
    go_wp2
    go_ret
    exact ⟨ret_bool H.out.symm, rfl⟩
  | true =>
    rw [hl] at L
    have H := hid (show mayS s c f = (decide (0 ≤ f) && decide (f ≤ 9)) by unfold mayS; rw [hl]; rfl)
    clear hl
    by_cases c1 : 0 ≤ f
    · by_cases c2 : f ≤ 9
      · go_enter Tryz.func72, Tryz.ntmps72
        go_wp2_with fail
        refine L.out.mono ?_
        rintro e w1 ⟨rfl, rfl⟩
        go_wp2
        go_ret
        exact ⟨ret_bool (by rw [H.out]; simp; omega), rfl⟩
      · go_enter Tryz.func72, Tryz.ntmps72
        go_wp2_with fail
        refine L.out.mono ?_
        rintro e w1 ⟨rfl, rfl⟩
        go_wp2
        go_ret
        exact ⟨ret_bool (by rw [H.out]; simp; omega), rfl⟩
    · go_enter Tryz.func72, Tryz.ntmps72
      go_wp2_with fail
      refine L.out.mono ?_
      rintro e w1 ⟨rfl, rfl⟩
      go_wp2
      go_ret
      exact ⟨ret_bool (by rw [H.out]; simp; omega), rfl⟩

theorem get_no {s : St} {c f : Int} (h : mayS s c f = false) : getS s c f = -1 := by unfold getS; rw [h]; rfl
theorem get_yes {s : St} {c f : Int} (h : mayS s c f = true) : getS s c f = hasS s c.toNat f.toNat := by unfold getS; rw [if_pos h]

set_option maxHeartbeats 1000000 in
theorem readA (pa pm : Nat) (s : St) (F : Nat → Prop) (c f : Int) (w : World) (h : IsA w F pa pm s) :
    Calls Tryz.prog 63 #[.pointer (some ⟨pa, 0, none⟩), .int .i64 c, .int .i64 f] w fun e w' => e = .returned (.int .i64 (getS s c f)) ∧ ∃ n, w' = w.drewN n := by
  have M := hid (mayA pa pm s F c f w h)
  cases hm : mayS s c f with
  | false =>
    have H := hid (get_no hm)
    rw [hm] at M
    clear hm h
    go_enter Tryz.func63, Tryz.ntmps63
    go_wp2_with fail
    refine M.out.mono ?_
    rintro e w1 ⟨rfl, rfl⟩
    go_wp2
    go_ret
    exact ⟨ret_int H.out.symm, 0, rfl⟩
  | true =>
    have H := hid (get_yes hm)
    rw [hm] at M
    obtain ⟨hl, hf0, hf9⟩ := may_yes hm
    obtain ⟨hc0, x, hx⟩ := live_iff.1 hl
    have hlt : c.toNat < s.pl.length := (List.getElem?_eq_some_iff.1 hx).1
    obtain ⟨hv, tv, bv, hr, f1, f2, f3, f4, f5, f6, ok⟩ := h
    obtain ⟨hpa, h0, h1, h2, h3, h4⟩ := hr.cells
    obtain ⟨g, cap, rfl, hg, _, hcell⟩ := hr.num (j := f.toNat) hx (by omega)
    have hlen : s.pl.length ≤ 65536 := Nat.le_trans ok.fits ok.top
    have HX := hid (has_of hx)
    have A := hid (fun w => atA c f hc0 (by omega) hf0 hf9 w)
    obtain ⟨o, ho⟩ : ∃ o : Int, c * 10 + f = o := ⟨_, rfl⟩
    have ho0 : 0 ≤ o := by omega
    have ho1 : o < ((s.pl.length * 10 : Nat) : Int) := by omega
    rw [show c.toNat * 10 + f.toNat = o.toNat by omega] at hcell
    rw [ho] at A
    generalize hn : s.pl.length * 10 = n at *
    have hn' : n ≤ 655360 := by omega
    clear hr h0 h1 h3 h4 f1 f2 f3 f4 f5 f6 ok hx hl hm ho hlt hlen hn hc0 hf0 hf9
    go_enter Tryz.func63, Tryz.ntmps63
    go_wp2_with fail
    refine M.out.mono ?_
    rintro e w1 ⟨rfl, rfl⟩
    go_wp2_with fail
    go_quiet (first
      | (go_at_call 73; refine Calls.quiet_of (A.out _)))
    go_wp2
    go_ret
    exact ⟨ret_int (by rw [H.out, HX.out]), _, rfl⟩

theorem newM (w : World) : Calls Tryz.prog 37 #[] w fun e w' => e = .returned (.pointer (some ⟨w.heap.size, 0, none⟩)) ∧ w' = w.alloc (.cells #[.int .i64 0, .int .i64 0, .int .i64 0] 76) := by
  go_enter Tryz.func37, Tryz.ntmps37
  go_wp2
  go_ret
  exact ⟨rfl, rfl⟩
theorem new0A (w : World) (n m : Int) (h : m = (most0 n : Int)) : IsA ((w.alloc (.cells #[.int .i64 0, .int .i64 0, .int .i64 0] 76)).alloc (.cells #[.int .i64 m, .pointer (some ⟨w.heap.size, 0, none⟩), .slice none 0 0, .slice none 0 0, .slice none 0 0] 63)) (fun k => k = w.heap.size ∨ k = w.heap.size + 1) (w.heap.size + 1) w.heap.size (st0 n) := by
  subst h
  have e : (w.alloc (.cells #[.int .i64 0, .int .i64 0, .int .i64 0] 76)).heap.size = w.heap.size + 1 := by simp
  refine ⟨.slice none 0 0, .slice none 0 0, .slice none 0 0, ⟨?_, ?_, World.ownsRow_nil _ 0 2 1, World.ownsRow_nil _ 0 74 1, World.ownsRow_nil _ 0 3 1⟩, Or.inr rfl, Or.inl rfl, fun k hk => (by cases hk), fun k hk => (by cases hk), fun k hk => (by cases hk), fun k hk => (by simp; omega), Ok.start n⟩
  · have := heap_alloc_new (w.alloc (.cells #[.int .i64 0, .int .i64 0, .int .i64 0] 76)) (.cells #[.int .i64 (most0 n : Int), .pointer (some ⟨w.heap.size, 0, none⟩), .slice none 0 0, .slice none 0 0, .slice none 0 0] 63)
    rw [e] at this
    exact this
  · exact (Below.heap_alloc _ _ _ (by simp)).trans (heap_alloc_new w _)
set_option maxHeartbeats 1000000 in
theorem newA (n : Int) (w : World) : Calls Tryz.prog 16 #[.int .i64 n] w fun e w' => ∃ F pa pm, e = .returned (.pointer (some ⟨pa, 0, none⟩)) ∧ IsA w' F pa pm (st0 n) ∧ (∀ k, F k → w.heap.size ≤ k) ∧ Below w.heap.size w w' := by
  go_enter Tryz.func16, Tryz.ntmps16
  go_wp2_with fail
  all_goals
    refine (newM w).mono ?_
    rintro e w1 ⟨rfl, rfl⟩
    go_wp2
    go_ret
    exact ⟨_, _, _, rfl, new0A w n _ (by unfold most0; omega), fun k hk => by omega, ((Below.refl _ _).alloc (Nat.le_refl _) _).alloc (by simp) _⟩
end Go.Proofs.YtnkpopeahmjodaaGreat
