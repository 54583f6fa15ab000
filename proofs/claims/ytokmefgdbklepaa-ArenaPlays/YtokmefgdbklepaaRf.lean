/- The document's arena: how it lies in memory; the walks of its New, Live, Len, Get, Cell, Set. -/
import Derived.Test.YtokmefgdbklepaaRl
namespace Go.Proofs.Ytokmefgdbklepaa
open Go.ChangeShapes Go.WideShapes Go.ChangeAt Go.RowKit

def sl10 (g : Nat) : List Value := [.slice (some ⟨g, 0, none⟩) 10 10]
theorem sl10_len : ∀ g, (sl10 g).length = 1 := fun _ => rfl
theorem sl10_one : ∀ g, ∀ v ∈ sl10 g, v.oneCell' = true := fun g v h => by simp [sl10] at h; subst h; rfl
def in1 (x : ((Nat → Int) × Bool)) : List Value := [.bool x.2]
theorem in1_len : ∀ x, (in1 x).length = 1 := fun _ => rfl
theorem in1_one : ∀ x, ∀ v ∈ in1 x, v.oneCell' = true := fun x v h => by simp [in1] at h; subst h; rfl

theorem blk_ne {w : World} {a b : Nat} {c1 c2 : Array Value} {t1 t2 : TypeId} {f1 f2 : Nat × Nat} (h1 : w.heap[a]? = some (.cells c1 t1 f1)) (h2 : w.heap[b]? = some (.cells c2 t2 f2)) (ht : t1 ≠ t2) : a ≠ b := fun e => by
  subst e
  rw [h1] at h2
  injection h2 with h2
  injection h2 with _ h2 _
  exact ht h2

/-- the document's arena in memory -/
structure RawR (w : World) (pr : Nat) (fv iv bv : Value) (gs : List Nat) (s : St) : Prop where
  blk : w.heap[pr]? = some (.cells #[.int .i64 s.most, fv, iv, bv, .int .i64 s.steps] 52 (0, 0))
  fs : w.ownsRow 0 41 1 fv gs.length (row sl10 gs)
  ins : w.ownsRow 0 4 1 iv s.pl.length (row in1 s.pl)
  back : w.ownsRow 0 3 1 bv s.back.length (row nat1 s.back)
  len : gs.length = s.pl.length
  cells : ∀ (i g : Nat) (x : ((Nat → Int) × Bool)), gs[i]? = some g → s.pl[i]? = some x → w.heap[g]? = some (.cells (ten x).toArray 2 (0, 0))
  once : ∀ (i j g : Nat), gs[i]? = some g → gs[j]? = some g → i = j

def IsR (w : World) (F : Nat → Prop) (pr : Nat) (s : St) : Prop :=
  ∃ fv iv bv gs, RawR w pr fv iv bv gs s ∧ F pr ∧ (∀ k, fv.ownBlock = some k → F k) ∧ (∀ k, iv.ownBlock = some k → F k) ∧ (∀ k, bv.ownBlock = some k → F k) ∧ (∀ g ∈ gs, F g) ∧ (∀ k, F k → k < w.heap.size) ∧ Ok s

section
variable {w w' : World} {F G : Nat → Prop} {pr : Nat} {fv iv bv : Value} {gs : List Nat} {s s' : St}
theorem RawR.fields (h : RawR w pr fv iv bv gs s) : pr < w.heap.size ∧ w.cell? ⟨pr, 0, none⟩ = some (.int .i64 s.most) ∧ w.cell? ⟨pr, 1, none⟩ = some fv ∧ w.cell? ⟨pr, 2, none⟩ = some iv ∧ w.cell? ⟨pr, 3, none⟩ = some bv ∧ w.cell? ⟨pr, 4, none⟩ = some (.int .i64 s.steps) :=
  ⟨lt_of_block h.blk, blk_cell h.blk rfl, blk_cell h.blk rfl, blk_cell h.blk rfl, blk_cell h.blk rfl, blk_cell h.blk rfl⟩
/-- the cell that holds place i -/
theorem RawR.at' (h : RawR w pr fv iv bv gs s) {i : Nat} {x : ((Nat → Int) × Bool)} (hx : s.pl[i]? = some x) : ∃ g, gs[i]? = some g ∧ w.heap[g]? = some (.cells (ten x).toArray 2 (0, 0)) := by
  have hi : i < gs.length := by rw [h.len]; exact (List.getElem?_eq_some_iff.1 hx).1
  exact ⟨gs[i], List.getElem?_eq_getElem hi, h.cells i _ x (List.getElem?_eq_getElem hi) hx⟩
theorem RawR.same (h : RawR w pr fv iv bv gs s) (h0 : w'.heap[pr]? = w.heap[pr]?) (h1 : ∀ k, fv.ownBlock = some k → w'.heap[k]? = w.heap[k]?) (h2 : ∀ k, iv.ownBlock = some k → w'.heap[k]? = w.heap[k]?) (h3 : ∀ k, bv.ownBlock = some k → w'.heap[k]? = w.heap[k]?) (h4 : ∀ g ∈ gs, w'.heap[g]? = w.heap[g]?) : RawR w' pr fv iv bv gs s :=
  ⟨h0.trans h.blk, own_same h.fs h1, own_same h.ins h2, own_same h.back h3, h.len, fun i g x hg hx => (h4 g (List.mem_of_getElem? hg)).trans (h.cells i g x hg hx), h.once⟩
theorem RawR.glt (h : RawR w pr fv iv bv gs s) : ∀ g ∈ gs, g < w.heap.size := fun g hg => by
  obtain ⟨i, hi, e⟩ := List.getElem_of_mem hg
  have h1 : gs[i]? = some g := by rw [List.getElem?_eq_getElem hi, e]
  have h2 : i < s.pl.length := by rw [← h.len]; exact hi
  exact lt_of_block (h.cells i g _ h1 (List.getElem?_eq_getElem h2))
theorem RawR.plain (h : RawR w pr fv iv bv gs s) (k : Kept (fun _ => False) w w') : RawR w' pr fv iv bv gs s :=
  h.same (k.block pr (lt_of_block h.blk) fun e => e) (fun i hi => k.block i (h.fs.lt i hi).2 fun e => e) (fun i hi => k.block i (h.ins.lt i hi).2 fun e => e) (fun i hi => k.block i (h.back.lt i hi).2 fun e => e) (fun g hg => k.block g (h.glt g hg) fun e => e)
/-- one more step -/
theorem RawR.ticked (h : RawR w pr fv iv bv gs s) : RawR (w.setCell ⟨pr, 4, none⟩ (.int .i64 ((s.steps : Int) + 1))) pr fv iv bv gs (tick s) := by
  refine ⟨?_, ownsRow_setCell_other h.fs (own_ne_block h.fs h.blk (by decide)) _, ownsRow_setCell_other h.ins (own_ne_block h.ins h.blk (by decide)) _, ownsRow_setCell_other h.back (own_ne_block h.back h.blk (by decide)) _, h.len, fun i g x hg hx => blk_other (h.cells i g x hg hx) (blk_ne (h.cells i g x hg hx) h.blk (by decide)), h.once⟩
  have := blk_set (j := 4) (u := .int .i64 ((s.steps : Int) + 1)) h.blk
  simpa [tick] using this
/-- a mark turned -/
theorem RawR.marked {g cap n : Nat} (h : RawR w pr fv (.slice (some ⟨g, 0, none⟩) n cap) bv gs s) {i : Nat} {x : ((Nat → Int) × Bool)} (hx : s.pl[i]? = some x) (b : Bool) :
    RawR (w.setCell ⟨g, i, none⟩ (.bool b)) pr fv (.slice (some ⟨g, 0, none⟩) n cap) bv gs ⟨s.most, s.pl.set i (x.1, b), s.back, s.steps⟩ := by
  have hn : n = s.pl.length := by
    rcases h.ins.2 with ⟨e, _⟩ | ⟨g', cap', cur, e, _⟩
    · cases e
    · cases e; rfl
  subst hn
  have hne : (Value.slice (some ⟨g, 0, none⟩) s.pl.length cap).ownBlock ≠ some pr := own_ne_block h.ins h.blk (by decide)
  have hs := (h.ins.stored i (.bool b)).1
  have hrow := row_set in1_len s.pl i 0 x (x.1, b) (.bool b) hx (by decide) rfl
  simp only [Nat.mul_one, Nat.add_zero] at hrow
  rw [hrow] at hs
  refine ⟨blk_other h.blk (fun e => hne (by rw [e]; rfl)), ownsRow_setCell_other (a := ⟨g, i, none⟩) h.fs (ne_of_own h.fs h.ins (by decide) rfl) _, by simpa using hs, ownsRow_setCell_other (a := ⟨g, i, none⟩) h.back (ne_of_own h.back h.ins (by decide) rfl) _, by simpa using h.len, fun j g' y hg hy => ?_, h.once⟩
  have hj : j < s.pl.length := by rw [← h.len]; exact (List.getElem?_eq_some_iff.1 hg).1
  have hc := h.cells j g' _ hg (List.getElem?_eq_getElem hj)
  have hgg : g' ≠ g := fun e => own_ne_block h.ins hc (by decide) (by rw [e]; rfl)
  have e : ten y = ten s.pl[j] := by
    by_cases c : i = j
    · subst c
      rw [List.getElem?_set_self hj] at hy
      rw [List.getElem?_eq_getElem hj] at hx
      injection hx with hx
      injection hy with hy
      rw [← hy, hx]; rfl
    · rw [List.getElem?_set_ne c, List.getElem?_eq_getElem hj] at hy
      injection hy with hy
      rw [hy]
  rw [e]
  exact blk_other hc hgg
/-- a number turned -/
theorem RawR.stored {g : Nat} (h : RawR w pr fv iv bv gs s) {i j : Nat} {x : ((Nat → Int) × Bool)} (hx : s.pl[i]? = some x) (hg : gs[i]? = some g) (hj : j < 10) (v : Int) :
    RawR (w.setCell ⟨g, j, none⟩ (.int .i64 v)) pr fv iv bv gs ⟨s.most, s.pl.set i (upd x.1 j v, x.2), s.back, s.steps⟩ := by
  have hc := h.cells i g x hg hx
  have hr : row in1 (s.pl.set i (upd x.1 j v, x.2)) = row in1 s.pl := row_like _ _ _ _ hx rfl
  refine ⟨blk_other h.blk (blk_ne h.blk hc (by decide)), ownsRow_setCell_other h.fs (own_ne_block h.fs hc (by decide)) _, ?_, ownsRow_setCell_other h.back (own_ne_block h.back hc (by decide)) _, by simpa using h.len, fun k g' y hg' hy => ?_, h.once⟩
  · have := ownsRow_setCell_other (a := ⟨g, j, none⟩) h.ins (own_ne_block h.ins hc (by decide)) (.int .i64 v)
    simp only [List.length_set, hr]
    exact this
  · have hk : k < s.pl.length := by rw [← h.len]; exact (List.getElem?_eq_some_iff.1 hg').1
    by_cases c : i = k
    · subst c
      rw [hg] at hg'
      injection hg' with hg'
      subst hg'
      rw [List.getElem?_set_self hk] at hy
      injection hy with hy
      subst hy
      have := blk_set (j := j) (u := .int .i64 v) hc
      rw [this]
      congr 2
      have e := ten_set x x.2 j v hj
      rw [← e]
      simp
    · rw [List.getElem?_set_ne c] at hy
      have hgg : g' ≠ g := fun e => by
        subst e
        exact c (h.once i k _ hg hg')
      exact blk_other (h.cells k g' y hg' hy) hgg

theorem IsR.kept (h : IsR w F pr s) (k : Kept G w w') (hd : ∀ k, F k → ¬ G k) : IsR w' F pr s := by
  obtain ⟨fv, iv, bv, gs, hr, h1, h2, h3, h4, h5, h6, ok⟩ := h
  have hb : ∀ i, F i → w'.heap[i]? = w.heap[i]? := fun i hi => k.block i (h6 i hi) (hd i hi)
  exact ⟨fv, iv, bv, gs, hr.same (hb pr h1) (fun i hi => hb i (h2 i hi)) (fun i hi => hb i (h3 i hi)) (fun i hi => hb i (h4 i hi)) (fun g hg => hb g (h5 g hg)), h1, h2, h3, h4, h5, fun i hi => Nat.lt_of_lt_of_le (h6 i hi) k.size, ok⟩
theorem IsR.lt (h : IsR w F pr s) : ∀ k, F k → k < w.heap.size := by
  obtain ⟨_, _, _, _, _, _, _, _, _, _, h6, _⟩ := h; exact h6
theorem IsR.ok (h : IsR w F pr s) : Ok s := by
  obtain ⟨_, _, _, _, _, _, _, _, _, _, _, ok⟩ := h; exact ok
theorem IsR.widen (h : IsR w F pr s) (hg : ∀ k, F k → G k) (hl : ∀ k, G k → k < w.heap.size) : IsR w G pr s := by
  obtain ⟨fv, iv, bv, gs, hr, h1, h2, h3, h4, h5, h6, ok⟩ := h
  exact ⟨fv, iv, bv, gs, hr, hg _ h1, fun k hk => hg _ (h2 k hk), fun k hk => hg _ (h3 k hk), fun k hk => hg _ (h4 k hk), fun g hm => hg _ (h5 g hm), hl, ok⟩
theorem IsR.grow (h : IsR w F pr s) (k : Kept G w w') (hd : ∀ k, F k → ¬ G k) : IsR w' (Grow F w w') pr s :=
  (h.kept k hd).widen (fun _ e => Or.inl e) (Grow.lt h.lt k.size)
theorem IsR.drewN (h : IsR w F pr s) (n : Nat) : IsR (w.drewN n) F pr s := h.kept ((Kept.refl (fun _ => False) _).drewN _) fun _ _ e => e
theorem IsR.ticked (h : IsR w F pr s) : IsR (w.setCell ⟨pr, 4, none⟩ (.int .i64 ((s.steps : Int) + 1))) F pr (tick s) ∧ Kept F w (w.setCell ⟨pr, 4, none⟩ (.int .i64 ((s.steps : Int) + 1))) := by
  obtain ⟨fv, iv, bv, gs, hr, h1, h2, h3, h4, h5, h6, ok⟩ := h
  exact ⟨⟨fv, iv, bv, gs, hr.ticked, h1, h2, h3, h4, h5, fun k hk => by simpa [World.setCell] using h6 k hk, ok.tick⟩, (Kept.refl F w).setCell (p := ⟨pr, 4, none⟩) (Or.inl h1) _⟩
theorem IsR.steps (h : IsR w F pr s) : pr < w.heap.size ∧ w.cell? ⟨pr, 4, none⟩ = some (.int .i64 s.steps) ∧ w.frozen? ⟨pr, 4, none⟩ = false ∧ w.cell? ⟨pr, 0, none⟩ = some (.int .i64 s.most) := by
  obtain ⟨fv, iv, bv, gs, hr, _⟩ := h
  exact ⟨hr.fields.1, hr.fields.2.2.2.2.2, blk_free hr.blk, hr.fields.2.1⟩
end

theorem new0R (w : World) (n m : Int) (h : m = (most0 n : Int)) : IsR (w.alloc (.cells #[.int .i64 m, .slice none 0 0, .slice none 0 0, .slice none 0 0, .int .i64 0] 52)) (fun k => k = w.heap.size) w.heap.size (st0 n) := by
  subst h
  exact ⟨.slice none 0 0, .slice none 0 0, .slice none 0 0, [], ⟨heap_alloc_new w _, World.ownsRow_nil _ 0 41 1, World.ownsRow_nil _ 0 4 1, World.ownsRow_nil _ 0 3 1, rfl, fun i g x hg => (by simp at hg), fun i j g hg => (by simp at hg)⟩, rfl, fun k hk => (by cases hk), fun k hk => (by cases hk), fun k hk => (by cases hk), fun g hg => (by cases hg), fun k hk => (by subst hk; simp), Ok.start n⟩
set_option maxHeartbeats 1000000 in
theorem newR (n : Int) (w : World) : Calls Try.prog 22 #[.int .i64 n] w fun e w' => ∃ F pr, e = .returned (.pointer (some ⟨pr, 0, none⟩)) ∧ IsR w' F pr (st0 n) ∧ (∀ k, F k → w.heap.size ≤ k) ∧ Below w.heap.size w w' := by
  go_enter Try.func22, Try.ntmps22
  go_wp2
  all_goals
    go_ret
    exact ⟨_, _, rfl, new0R w n _ (by unfold most0; omega), fun k hk => (by subst hk; exact Nat.le_refl _), (Below.refl _ _).alloc (Nat.le_refl _) _⟩

set_option maxHeartbeats 1000000 in
theorem liveR (pr : Nat) (s : St) (F : Nat → Prop) (c : Int) (w : World) (h : IsR w F pr s) :
    Calls Try.prog 29 #[.pointer (some ⟨pr, 0, none⟩), .int .i64 c] w fun e w' => e = .returned (.bool (liveS s c)) ∧ w' = w := by
  obtain ⟨fv, iv, bv, gs, hr, f1, f2, f3, f4, f5, f6, ok⟩ := h
  obtain ⟨hpa, h0, h1, h2, h3, h4⟩ := hr.fields
  have hlen : s.pl.length ≤ 65536 := Nat.le_trans ok.fits ok.top
  clear h0 h1 h3 h4 f1 f2 f3 f4 f5 f6 ok
  by_cases c1 : c < 0
  · have H := hid (live_neg (s := s) c1)
    have c1' : decide (0 ≤ c) = false := by simp; omega
    clear h2 hr
    go_enter Try.func29, Try.ntmps29
    go_wp2
    go_ret
    exact ⟨ret_bool H.out.symm, rfl⟩
  · have c1' : 0 ≤ c := by omega
    by_cases c2 : (s.pl.length : Int) ≤ c
    · have H := hid (live_far c2)
      obtain ⟨ta, tc, rfl⟩ := own_form hr.ins
      have c2' : decide (c < (s.pl.length : Int)) = false := by simp; omega
      clear hr c1
      generalize s.pl.length = n at *
      go_enter Try.func29, Try.ntmps29
      go_wp2
      go_ret
      exact ⟨ret_bool H.out.symm, rfl⟩
    · have hn1 : c.toNat < s.pl.length := by omega
      have hx : s.pl[c.toNat]? = some s.pl[c.toNat] := List.getElem?_eq_getElem hn1
      obtain ⟨g, cap, rfl, hg, _, hc⟩ := own1_at hr.ins in1_len hx
      have H := hid (live_at c1' hx)
      generalize s.pl[c.toNat] = x at hc H
      obtain ⟨xx, b⟩ := x
      replace hc : w.cell? ⟨g, c.toNat, none⟩ = some (.bool b) := hc
      have c2' : c < (s.pl.length : Int) := by omega
      have hgp : g ≠ pr := fun e => own_ne_block hr.ins hr.blk (by decide) (by rw [e]; rfl)
      clear hr hx c1 c2 hn1
      generalize s.pl.length = n at *
      go_enter Try.func29, Try.ntmps29
      go_wp2
      go_ret
      exact ⟨ret_bool H.out.symm, rfl⟩

set_option maxHeartbeats 1000000 in
theorem lenR (pr : Nat) (s : St) (F : Nat → Prop) (w : World) (h : IsR w F pr s) :
    Calls Try.prog 28 #[.pointer (some ⟨pr, 0, none⟩)] w fun e w' => e = .returned (.int .i64 (cnt s.pl)) ∧ w' = w := by
  obtain ⟨fv, iv, bv, gs, hr, f1, f2, f3, f4, f5, f6, ok⟩ := h
  obtain ⟨hpa, h0, h1, h2, h3, h4⟩ := hr.fields
  have hlen : s.pl.length ≤ 65536 := Nat.le_trans ok.fits ok.top
  have HR := hid hr
  clear hr h0 h1 h3 h4 f1 f2 f3 f4 f5 f6 ok
  obtain ⟨ia, ic, rfl⟩ := own_form HR.out.ins
  go_enter Try.func28, Try.ntmps28
  go_wp2_with fail
  go_loopw [3, 4] (fun nv kv wr => ∃ k : Nat, kv = .int .i64 k ∧ k ≤ s.pl.length ∧ nv = .int .i64 (cnt (s.pl.take k) : Int) ∧ wr = w) (fun _ k _ => s.pl.length - (intOf k).toNat)
  case atStart => exact ⟨0, rfl, Nat.zero_le _, by simp [cnt], rfl⟩
  case round =>
    obtain ⟨k, rfl, hk, rfl, rfl⟩ := hrel
    have cb : cnt (s.pl.take k) ≤ 65536 := by
      have := cnt_le (s.pl.take k)
      simp at this
      omega
    by_cases hlt : k < s.pl.length
    · have hx : s.pl[k]? = some s.pl[k] := List.getElem?_eq_getElem hlt
      obtain ⟨g, cap, ee, hg, _, hc⟩ := own1_at HR.out.ins in1_len hx
      cases ee
      have CT := hid (cnt_take s.pl k)
      rw [hx] at CT
      generalize s.pl[k] = x at hc CT
      obtain ⟨xx, b⟩ := x
      replace hc : wr.cell? ⟨g, k, none⟩ = some (.bool b) := hc
      replace CT : Hid (cnt (s.pl.take (k + 1)) = cnt (s.pl.take k) + b.toNat) := CT
      obtain ⟨n, hn⟩ : ∃ n, n = cnt (s.pl.take k) := ⟨_, rfl⟩
      rw [← hn] at CT cb ⊢
      have hlt' : (k : Int) < (s.pl.length : Int) := by omega
      clear hn hx
      cases b
      all_goals
        go_wp2
        go_roundw
        case rel => exact ⟨k + 1, by go_num, by omega, by rw [CT.out]; go_num, by first | rfl | trivial⟩
        case measure => simp [intOf]; omega
    · obtain rfl : k = s.pl.length := by omega
      have E := hid (show cnt (s.pl.take s.pl.length) = cnt s.pl by rw [List.take_length])
      go_wp2
      go_ret
      exact ⟨ret_int (by rw [E.out]), rfl⟩
end Go.Proofs.Ytokmefgdbklepaa
