/- The document's pool: how it lies in memory; the walks of its New, Look, Get. -/
import Derived.Test.YtliabapopgeieaaMn
namespace Go.Proofs.Ytliabapopgeieaa
open Go.ChangeShapes Go.WideShapes Go.ChangeAt Go.RowKit

def gen1 (x : Int × Nat × Bool) : List Value := [.int .i64 x.2.1]
def in1 (x : Int × Nat × Bool) : List Value := [.bool x.2.2]
def val1 (x : Int × Nat × Bool) : List Value := [.int .i64 x.1]
theorem gen1_len : ∀ x, (gen1 x).length = 1 := fun _ => rfl
theorem in1_len : ∀ x, (in1 x).length = 1 := fun _ => rfl
theorem val1_len : ∀ x, (val1 x).length = 1 := fun _ => rfl
theorem gen1_one : ∀ x, ∀ v ∈ gen1 x, v.oneCell' = true := fun x v h => by simp [gen1] at h; subst h; rfl
theorem in1_one : ∀ x, ∀ v ∈ in1 x, v.oneCell' = true := fun x v h => by simp [in1] at h; subst h; rfl
theorem val1_one : ∀ x, ∀ v ∈ val1 x, v.oneCell' = true := fun x v h => by simp [val1] at h; subst h; rfl

/-- the document's pool in memory -/
structure RawR (w : World) (pa : Nat) (gv iv vv bv : Value) (s : St Int) : Prop where
  blk : w.heap[pa]? = some (.cells #[.int .i64 s.most, gv, iv, vv, bv] 56 (0, 0))
  gens : w.ownsRow 0 3 1 gv s.pl.length (row gen1 s.pl)
  ins : w.ownsRow 0 4 1 iv s.pl.length (row in1 s.pl)
  vals : w.ownsRow 0 2 1 vv s.pl.length (row val1 s.pl)
  back : w.ownsRow 0 3 1 bv s.back.length (row nat1 s.back)
  apart : ∀ k, gv.ownBlock = some k → bv.ownBlock ≠ some k

def IsR (w : World) (F : Nat → Prop) (pa : Nat) (s : St Int) : Prop :=
  ∃ gv iv vv bv, RawR w pa gv iv vv bv s ∧ F pa ∧ (∀ k, gv.ownBlock = some k → F k) ∧ (∀ k, iv.ownBlock = some k → F k) ∧ (∀ k, vv.ownBlock = some k → F k) ∧ (∀ k, bv.ownBlock = some k → F k) ∧ ∀ k, F k → k < w.heap.size

theorem RawR.cells {w : World} {pa : Nat} {gv iv vv bv : Value} {s : St Int} (h : RawR w pa gv iv vv bv s) :
    pa < w.heap.size ∧ w.cell? ⟨pa, 0, none⟩ = some (.int .i64 s.most) ∧ w.cell? ⟨pa, 1, none⟩ = some gv ∧ w.cell? ⟨pa, 2, none⟩ = some iv ∧ w.cell? ⟨pa, 3, none⟩ = some vv ∧ w.cell? ⟨pa, 4, none⟩ = some bv :=
  ⟨lt_of_block h.blk, blk_cell h.blk rfl, blk_cell h.blk rfl, blk_cell h.blk rfl, blk_cell h.blk rfl, blk_cell h.blk rfl⟩

/-- a cell of a row of single cells -/
theorem own1_get {α : Type} {f : α → List Value} {w : World} {e : TypeId} {v : Value} {l : List α} (hf : ∀ x, (f x).length = 1) (h : w.ownsRow 0 e 1 v l.length (row f l)) {i : Nat} {x : α} (hx : l[i]? = some x) :
    ∃ g cap, v = .slice (some ⟨g, 0, none⟩) l.length cap ∧ g < w.heap.size ∧ (∀ j, w.frozen? ⟨g, j, none⟩ = false) ∧ w.cell? ⟨g, i, none⟩ = (f x)[0]? := by
  have hi : i < l.length := (List.getElem?_eq_some_iff.1 hx).1
  obtain ⟨g, cap, rfl, _, hg⟩ := h.form (by omega)
  refine ⟨g, cap, rfl, hg, fun j => h.frozenAt j, ?_⟩
  rw [h.cellAt i (by omega)]
  have := row_get hf l i 0 x hx (by decide)
  simpa using this

theorem RawR.same {w w' : World} {pa : Nat} {gv iv vv bv : Value} {s : St Int} (h : RawR w pa gv iv vv bv s) (h0 : w'.heap[pa]? = w.heap[pa]?) (h1 : ∀ k, gv.ownBlock = some k → w'.heap[k]? = w.heap[k]?) (h2 : ∀ k, iv.ownBlock = some k → w'.heap[k]? = w.heap[k]?) (h3 : ∀ k, vv.ownBlock = some k → w'.heap[k]? = w.heap[k]?) (h4 : ∀ k, bv.ownBlock = some k → w'.heap[k]? = w.heap[k]?) : RawR w' pa gv iv vv bv s :=
  ⟨h0.trans h.blk, own_same h.gens h1, own_same h.ins h2, own_same h.vals h3, own_same h.back h4, h.apart⟩
theorem RawR.plain {w w' : World} {pa : Nat} {gv iv vv bv : Value} {s : St Int} (h : RawR w pa gv iv vv bv s) (k : Kept (fun _ => False) w w') : RawR w' pa gv iv vv bv s :=
  h.same (k.block pa (lt_of_block h.blk) fun e => e) (fun i hi => k.block i (h.gens.lt i hi).2 fun e => e) (fun i hi => k.block i (h.ins.lt i hi).2 fun e => e) (fun i hi => k.block i (h.vals.lt i hi).2 fun e => e) (fun i hi => k.block i (h.back.lt i hi).2 fun e => e)
theorem IsR.kept {w w' : World} {F G : Nat → Prop} {pa : Nat} {s : St Int} (h : IsR w F pa s) (k : Kept G w w') (hd : ∀ k, F k → ¬ G k) : IsR w' F pa s := by
  obtain ⟨gv, iv, vv, bv, hr, h1, h2, h3, h4, h5, h6⟩ := h
  have hb : ∀ i, F i → w'.heap[i]? = w.heap[i]? := fun i hi => k.block i (h6 i hi) (hd i hi)
  exact ⟨gv, iv, vv, bv, hr.same (hb pa h1) (fun i hi => hb i (h2 i hi)) (fun i hi => hb i (h3 i hi)) (fun i hi => hb i (h4 i hi)) (fun i hi => hb i (h5 i hi)), h1, h2, h3, h4, h5, fun i hi => Nat.lt_of_lt_of_le (h6 i hi) k.size⟩
theorem IsR.lt {w : World} {F : Nat → Prop} {pa : Nat} {s : St Int} (h : IsR w F pa s) : ∀ k, F k → k < w.heap.size := by
  obtain ⟨_, _, _, _, _, _, _, _, _, _, h6⟩ := h; exact h6
theorem IsR.widen {w : World} {F G : Nat → Prop} {pa : Nat} {s : St Int} (h : IsR w F pa s) (hg : ∀ k, F k → G k) (hl : ∀ k, G k → k < w.heap.size) : IsR w G pa s := by
  obtain ⟨gv, iv, vv, bv, hr, h1, h2, h3, h4, h5, h6⟩ := h
  exact ⟨gv, iv, vv, bv, hr, hg _ h1, fun k hk => hg _ (h2 k hk), fun k hk => hg _ (h3 k hk), fun k hk => hg _ (h4 k hk), fun k hk => hg _ (h5 k hk), hl⟩
theorem IsR.grow {w w' : World} {F G : Nat → Prop} {pa : Nat} {s : St Int} (h : IsR w F pa s) (k : Kept G w w') (hd : ∀ k, F k → ¬ G k) : IsR w' (Grow F w w') pa s :=
  (h.kept k hd).widen (fun _ e => Or.inl e) (Grow.lt h.lt k.size)
theorem IsR.far {w : World} {F : Nat → Prop} {pa : Nat} {s : St Int} (h : IsR w F pa s) {p : Addr} (hp : ¬ F p.block) (u : Value) : IsR (w.setCell p u) F pa s :=
  h.kept (G := fun k => k = p.block) (Kept.setCell (p := p) (Kept.refl (fun k => k = p.block) w) (Or.inl rfl) u) fun _ hk e => hp (e ▸ hk)

theorem new0R (w : World) (n m : Int) (h : m = (most0 n : Int)) : IsR (w.alloc (.cells #[.int .i64 m, .slice none 0 0, .slice none 0 0, .slice none 0 0, .slice none 0 0] 56)) (fun k => k = w.heap.size) w.heap.size ⟨most0 n, [], []⟩ :=
  ⟨.slice none 0 0, .slice none 0 0, .slice none 0 0, .slice none 0 0, ⟨by rw [h]; exact heap_alloc_new w _, ⟨rfl, Or.inl ⟨rfl, rfl⟩⟩, ⟨rfl, Or.inl ⟨rfl, rfl⟩⟩, ⟨rfl, Or.inl ⟨rfl, rfl⟩⟩, ⟨rfl, Or.inl ⟨rfl, rfl⟩⟩, fun k hk => (by cases hk)⟩, rfl, fun k hk => (by cases hk), fun k hk => (by cases hk), fun k hk => (by cases hk), fun k hk => (by cases hk), fun k hk => (by subst hk; simp)⟩

set_option maxHeartbeats 1000000 in
theorem newR (n : Int) (w : World) : Calls Try.prog 21 #[.int .i64 n] w fun e w' => ∃ F pa, e = .returned (.pointer (some ⟨pa, 0, none⟩)) ∧ IsR w' F pa ⟨most0 n, [], []⟩ ∧ (∀ k, F k → w.heap.size ≤ k) ∧ Below w.heap.size w w' := by
  go_enter Try.func21, Try.ntmps21
  go_wp2
  all_goals
    go_ret
    exact ⟨_, _, rfl, new0R w n _ (by unfold most0; omega), fun k hk => (by subst hk; exact Nat.le_refl _), (Below.refl _ _).alloc (Nat.le_refl _) _⟩

set_option maxHeartbeats 2000000 in
theorem lookR (pa : Nat) (s : St Int) (gv iv vv bv : Value) (a g : Int) (w : World) (h : RawR w pa gv iv vv bv s) :
    Calls Try.prog 39 #[.pointer (some ⟨pa, 0, none⟩), .agg #[.int .i64 a, .int .i64 g]] w fun e w' => e = .returned (.int .i64 (lookS s.pl a g)) ∧ Below w.heap.size w w' := by
  obtain ⟨hpa, h0, h1, h2, h3, h4⟩ := h.cells
  clear h0 h3 h4
  by_cases c1 : a < 0
  · have H := hid (lookS_neg (l := s.pl) (g := g) c1)
    clear h1 h2
    go_enter Try.func39, Try.ntmps39
    go_wp2_with fail
    go_quiet (fail)
    go_wp2
    go_ret
    exact ⟨ret_int H.out.symm, below_box _ _⟩
  · have c1' : decide (a < 0) = false := by simp; omega
    obtain ⟨ua, uc, rfl⟩ := own_form h.gens
    by_cases c2 : (s.pl.length : Int) ≤ a
    · have H := hid (lookS_far (g := g) c2)
      clear c1 h2 h
      generalize s.pl.length = n at *
      go_enter Try.func39, Try.ntmps39
      go_wp2_with fail
      go_quiet (fail)
      go_wp2
      go_ret
      exact ⟨ret_int H.out.symm, below_box _ _⟩
    · have hn1 : a.toNat < s.pl.length := by omega
      have c2' : decide ((s.pl.length : Int) ≤ a) = false := by simp; omega
      have hx : s.pl[a.toNat]? = some s.pl[a.toNat] := List.getElem?_eq_getElem hn1
      obtain ⟨b, cap, e, hb, _, k1⟩ := own1_get gen1_len h.gens hx
      obtain ⟨b2, cap2, e2, hb2, _, k2⟩ := own1_get in1_len h.ins hx
      subst e2
      have HX := hid hx
      generalize s.pl[a.toNat] = x at k1 k2 HX
      cases e
      have a0 : 0 ≤ a := by omega
      have HP := hid a0
      replace k1 : w.cell? ⟨b, a.toNat, none⟩ = some (.int .i64 x.2.1) := k1
      replace k2 : w.cell? ⟨b2, a.toNat, none⟩ = some (.bool x.2.2) := k2
      have a1 : a < (s.pl.length : Int) := by omega
      clear c1 c2 hx h hn1
      by_cases c3 : g < 1
      · have H := hid (lookS_low HP.out HX.out c3)
        clear k1 k2 HX a0 a1 h2 hb2 hb
        generalize s.pl.length = n at *
        go_enter Try.func39, Try.ntmps39
        go_wp2_with fail
        go_quiet (fail)
        go_wp2
        go_ret
        exact ⟨ret_int H.out.symm, below_box _ _⟩
      · have c3' : decide (g < 1) = false := by simp; omega
        by_cases c4 : (x.2.1 : Int) < g
        · have H := hid (lookS_high HP.out HX.out c4)
          clear k2 c3 HX h2 hb2
          generalize s.pl.length = n at *
          go_enter Try.func39, Try.ntmps39
          go_wp2_with fail
          go_quiet (fail)
          go_wp2
          go_ret
          exact ⟨ret_int H.out.symm, below_box _ _⟩
        · have c4' : decide ((x.2.1 : Int) < g) = false := by simp; omega
          by_cases c5 : g < (x.2.1 : Int)
          · have H := hid (lookS_over (g := g) HP.out HX.out (by omega) c5)
            clear c3 c4 HX
            generalize s.pl.length = n at *
            go_enter Try.func39, Try.ntmps39
            go_wp2_with fail
            go_quiet (fail)
            go_wp2_with fail
            go_quiet (fail)
            go_wp2
            go_ret
            exact ⟨ret_int H.out.symm, below_drewN (below_box _ _) _⟩
          · have c5' : decide (g < (x.2.1 : Int)) = false := by simp; omega
            cases ht : x.2.2 with
            | false =>
              have H := hid (lookS_free (g := g) HP.out HX.out (by omega) (by omega) ht)
              rw [ht] at k2
              clear c3 c4 c5 ht HX
              generalize s.pl.length = n at *
              go_enter Try.func39, Try.ntmps39
              go_wp2_with fail
              go_quiet (fail)
              go_wp2_with fail
              go_quiet (fail)
              go_wp2
              go_ret
              exact ⟨ret_int H.out.symm, below_drewN (below_box _ _) _⟩
            | true =>
              have H := hid (lookS_ok (g := g) HP.out HX.out (by omega) (by omega) ht)
              rw [ht] at k2
              clear c3 c4 c5 ht HX
              generalize s.pl.length = n at *
              go_enter Try.func39, Try.ntmps39
              go_wp2_with fail
              go_quiet (fail)
              go_wp2_with fail
              go_quiet (fail)
              go_wp2
              go_ret
              exact ⟨ret_int H.out.symm, below_drewN (below_box _ _) _⟩
end Go.Proofs.Ytliabapopgeieaa
