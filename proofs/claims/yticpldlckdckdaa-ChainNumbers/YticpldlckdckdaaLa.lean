/- How the rings of play lie in memory; Within, told; the walks of Cell at a ring. -/
import Derived.Test.YticpldlckdckdaaPn
namespace Go.Proofs.Yticpldlckdckdaa
open Go.ChangeShapes Go.WideShapes Go.ChangeAt Go.RowKit

/-- blocks of lists: neither the arena's nor the rings' own -/
def Out (w0 : World) (G : Nat → Prop) (rb : Nat) : Nat → Prop := fun b => ¬ G b ∧ b ≠ rb ∧ w0.heap.size ≤ b

/-- the rings in memory: a slice of slices -/
structure Lay (w0 w : World) (G : Nat → Prop) (rb n : Nat) (vs : List Value) (rg : Nat → List Nat) : Prop where
  own : w.ownsRow 0 23 1 (.slice (some ⟨rb, 0, none⟩) n n) n vs
  out : ¬ G rb ∧ w0.heap.size ≤ rb
  lies : ∀ k v, vs[k]? = some v → Lies (Out w0 G rb) w v (rg k)

section
variable {w0 w w' : World} {F G : Nat → Prop} {rb n : Nat} {vs : List Value} {rg : Nat → List Nat}
theorem Lay.lt (h : Lay w0 w G rb n vs rg) : rb < w.heap.size := (h.own.lt rb rfl).2
theorem Lay.len (h : Lay w0 w G rb n vs rg) : vs.length = n := by have := h.own.1; omega
theorem Lay.get (h : Lay w0 w G rb n vs rg) {k : Nat} (hk : k < n) : ∃ v, vs[k]? = some v ∧ w.cell? ⟨rb, k, none⟩ = some v ∧ Lies (Out w0 G rb) w v (rg k) := by
  have hl := h.len
  have hv : vs[k]? = some (vs[k]'(by omega)) := List.getElem?_eq_getElem (by omega)
  refine ⟨_, hv, ?_, h.lies k _ hv⟩
  rw [h.own.cellAt k (by omega), hv]
theorem Lay.frozen (h : Lay w0 w G rb n vs rg) (k : Nat) : w.frozen? ⟨rb, k, none⟩ = false := h.own.frozenAt k
theorem Lay.kept {K : Nat → Prop} (h : Lay w0 w G rb n vs rg) (k : Kept K w w') (h1 : ¬ K rb) (h2 : ∀ b, ¬ G b → b ≠ rb → w0.heap.size ≤ b → ¬ K b) : Lay w0 w' G rb n vs rg :=
  ⟨own_kept h.own k (fun i hi => by cases hi; exact h1), h.out, fun i v hv => (h.lies i v hv).kept k fun b hb => h2 b hb.1 hb.2.1 hb.2.2⟩
theorem Lay.stay (h : Lay w0 w G rb n vs rg) (k : Kept G w w') : Lay w0 w' G rb n vs rg := h.kept k h.out.1 fun _ hb _ _ => hb
theorem Lay.plain (h : Lay w0 w G rb n vs rg) (k : Kept (fun _ => False) w w') : Lay w0 w' G rb n vs rg := h.kept k (fun e => e) fun _ _ _ _ e => e
theorem Lay.call (h : Lay w0 w G rb n vs rg) (k : Kept G w w') : Lay w0 w' (Grow G w w') rb n vs rg := by
  have h' := h.stay k
  have hg : ∀ b, b < w.heap.size → ¬ G b → ¬ Grow G w w' b := fun b hb hn e => e.elim hn fun e => by omega
  refine ⟨h'.own, ⟨hg rb h.lt h.out.1, h.out.2⟩, fun i v hv => ?_⟩
  have := (h.lies i v hv).mono (Q := Out w0 (Grow G w w') rb) fun b hb hP => ⟨hg b hb hP.1, hP.2⟩
  rcases this with q | ⟨b, off, cap, e, q1, q2, q3, q4, q5⟩
  · exact Or.inl q
  · exact Or.inr ⟨b, off, cap, e, q1, q2, Nat.lt_of_lt_of_le q3 k.size, q4, fun i x hx => (k.cell (p := ⟨b, _, none⟩) q3 (fun e => q4.1 (Or.inl e))).trans (q5 i x hx)⟩
theorem Lay.eq {rg' : Nat → List Nat} (h : Lay w0 w G rb n vs rg) (he : ∀ k, k < n → rg k = rg' k) : Lay w0 w G rb n vs rg' :=
  ⟨h.own, h.out, fun k v hv => by have := h.lies k v hv; rwa [he k (by have := (List.getElem?_eq_some_iff.1 hv).1; have := h.len; omega)] at this⟩
/-- a ring is stored -/
theorem Lay.store (h : Lay w0 w G rb n vs rg) {k : Nat} {v : Value} {l : List Nat} (hv : Lies (Out w0 G rb) w v l) : Lay w0 (w.setCell ⟨rb, k, none⟩ v) G rb n (vs.set k v) (fun j => if j = k then l else rg j) := by
  have K : Kept (fun b => b = rb) w (w.setCell ⟨rb, k, none⟩ v) := (Kept.refl (fun b => b = rb) w).setCell (p := ⟨rb, k, none⟩) (Or.inl rfl) v
  refine ⟨by simpa using (h.own.stored k v).1, h.out, fun j u hu => ?_⟩
  by_cases q : j = k
  · subst q
    have e : u = v := by
      have hj := (List.getElem?_eq_some_iff.1 hu).1
      rw [List.getElem?_set_self (by simpa using hj)] at hu
      simpa using hu.symm
    subst e
    show Lies _ _ _ (if j = j then l else rg j)
    rw [if_pos rfl]
    exact hv.kept K fun b hb => hb.2.1
  · rw [List.getElem?_set_ne (fun e => q e.symm)] at hu
    simp only [if_neg q]
    exact (h.lies j u hu).kept K fun b hb => hb.2.1
theorem Hr.stored {pa pm k t i : Nat} {nx pv : Nat → Nat} {v : Value} (h : Hr w0 w G pa pm n k nx pv t) (hl : ¬ G rb ∧ w0.heap.size ≤ rb) : Hr w0 (w.setCell ⟨rb, i, none⟩ v) G pa pm n k nx pv t :=
  h.other (G := fun b => b = rb) ((Kept.refl (fun b => b = rb) w).setCell (p := ⟨rb, i, none⟩) (Or.inl rfl) v) (fun k e => by rw [e]; exact hl.2) (fun k hk e => hl.1 (e ▸ hk))
theorem Lies.stored {i : Nat} {v u : Value} {l : List Nat} (h : Lies (Out w0 G rb) w v l) : Lies (Out w0 G rb) (w.setCell ⟨rb, i, none⟩ u) v l :=
  h.kept (G := fun b => b = rb) ((Kept.refl (fun b => b = rb) w).setCell (p := ⟨rb, i, none⟩) (Or.inl rfl) u) fun _ hb => hb.2.1
theorem Lies.form {P : Nat → Prop} {v : Value} {l : List Nat} (h : Lies P w v l) : ∃ a cap, v = .slice a l.length cap := by
  rcases h with ⟨rfl, rfl⟩ | ⟨b, off, cap, e, _⟩
  · exact ⟨_, _, rfl⟩
  · exact ⟨_, _, e⟩
/-- a row that was made since lies outside -/
theorem Out.of {base b : Nat} (hG : ∀ k, G k → k < base) (hr : rb < base) (h0 : w0.heap.size ≤ base) (hb : base ≤ b) : Out w0 G rb b := ⟨fun e => by have := hG b e; omega, by omega, by omega⟩
end

/-- Within, told -/
def winI (n lo hi : Int) : Int := if lo ≤ n ∧ n ≤ hi then n else if n.tmod (hi - lo + 1) < 0 then lo + (n.tmod (hi - lo + 1) + hi - lo + 1) else lo + n.tmod (hi - lo + 1)
theorem winI_le (n lo hi : Int) (h : lo ≤ hi) : lo ≤ winI n lo hi ∧ winI n lo hi ≤ hi := by
  obtain ⟨t1, t2⟩ := tmod_bounds n (k := hi - lo + 1) (by omega)
  unfold winI
  split
  · assumption
  · split <;> omega
set_option maxHeartbeats 1000000 in
theorem within_eq (n : Int) (hn : I64 n) (hi : Int) (hlh : 0 ≤ hi) (hh : hi ≤ 1000) (w : World) :
    Calls Try.prog 9 #[.int .i64 n, .int .i64 0, .int .i64 hi] w fun e w' => e = .returned (.int .i64 (winI n 0 hi)) ∧ w' = w := by
  obtain ⟨h1, h2⟩ := hn
  by_cases c1 : 0 ≤ n
  · by_cases c2 : n ≤ hi
    · have E := hid (show winI n 0 hi = n by unfold winI; rw [if_pos ⟨c1, c2⟩])
      go_enter Try.func9, Try.ntmps9
      go_wp2
      go_ret
      exact ⟨ret_int E.out.symm, rfl⟩
    · have hwd : IntKind.i64.wrap (hi + 1) = hi + 1 := IntWalk.i64_in _ (by omega)
      have hne : ¬ (hi + 1 = 0) := by omega
      obtain ⟨t1, t2⟩ := tmod_bounds n (k := hi + 1) (by omega)
      have c2' : decide (n ≤ hi) = false := by simp; omega
      have E := hid (show winI n 0 hi = if n.tmod (hi + 1) < 0 then n.tmod (hi + 1) + hi + 1 else n.tmod (hi + 1) by unfold winI; rw [if_neg (by omega)]; simp)
      obtain ⟨t, ht⟩ : ∃ t : Int, n.tmod (hi + 1) = t := ⟨_, rfl⟩
      rw [ht] at t1 t2 E
      by_cases c3 : t < 0
      · go_enter Try.func9, Try.ntmps9
        go_wp2
        go_ret
        exact ⟨ret_int (by rw [E.out, if_pos c3]), rfl⟩
      · have c3' : decide (t < 0) = false := by simp; omega
        go_enter Try.func9, Try.ntmps9
        go_wp2
        go_ret
        exact ⟨ret_int (by rw [E.out, if_neg (by omega)]), rfl⟩
  · have hwd : IntKind.i64.wrap (hi + 1) = hi + 1 := IntWalk.i64_in _ (by omega)
    have hne : ¬ (hi + 1 = 0) := by omega
    obtain ⟨t1, t2⟩ := tmod_bounds n (k := hi + 1) (by omega)
    have c1' : decide (0 ≤ n) = false := by simp; omega
    have E := hid (show winI n 0 hi = if n.tmod (hi + 1) < 0 then n.tmod (hi + 1) + hi + 1 else n.tmod (hi + 1) by unfold winI; rw [if_neg (by omega)]; simp)
    obtain ⟨t, ht⟩ : ∃ t : Int, n.tmod (hi + 1) = t := ⟨_, rfl⟩
    rw [ht] at t1 t2 E
    by_cases c3 : t < 0
    · go_enter Try.func9, Try.ntmps9
      go_wp2
      go_ret
      exact ⟨ret_int (by rw [E.out, if_pos c3]), rfl⟩
    · have c3' : decide (t < 0) = false := by simp; omega
      go_enter Try.func9, Try.ntmps9
      go_wp2
      go_ret
      exact ⟨ret_int (by rw [E.out, if_neg (by omega)]), rfl⟩

section
variable {w0 w : World} {F : Nat → Prop} {pa pm n k t : Nat} {nx pv : Nat → Nat}
theorem rightC (h : Hr w0 w F pa pm n k nx pv t) (ht : t ≤ 900000) {c : Nat} (hc : c < k) :
    Calls Try.prog 22 #[.pointer (some ⟨pa, 0, none⟩), .int .i64 c, .int .i64 3] w fun e w' => e = .returned (.int .i64 (nx c : Int)) ∧ Hr w0 w' F pa pm n k nx pv (t + 1) ∧ Kept F w w' := by
  obtain ⟨hV, hI⟩ := h
  have hn := hV.le
  have hx := hI.nlt c hc
  obtain ⟨s, hs, hv, rfl⟩ := hV
  have := cellAH (c : Int) 3 hs (by omega)
  rw [hv.right hc (d := (nx c : Int)) rfl (by omega) (by omega)] at this
  exact this.mono fun _ _ ⟨a, b, d⟩ => ⟨a, ⟨⟨_, b, hv.tick, rfl⟩, hI⟩, d⟩
theorem leftC (h : Hr w0 w F pa pm n k nx pv t) (ht : t ≤ 900000) {c : Nat} (hc : c < k) :
    Calls Try.prog 22 #[.pointer (some ⟨pa, 0, none⟩), .int .i64 c, .int .i64 2] w fun e w' => e = .returned (.int .i64 (pv c : Int)) ∧ Hr w0 w' F pa pm n k nx pv (t + 1) ∧ Kept F w w' := by
  obtain ⟨hV, hI⟩ := h
  have hn := hV.le
  have hx := hI.plt c hc
  obtain ⟨s, hs, hv, rfl⟩ := hV
  have := cellAH (c : Int) 2 hs (by omega)
  rw [hv.left hc (d := (pv c : Int)) rfl (by omega) (by omega)] at this
  exact this.mono fun _ _ ⟨a, b, d⟩ => ⟨a, ⟨⟨_, b, hv.tick, rfl⟩, hI⟩, d⟩
end

theorem info23 : (Try.prog.info? 23).map (fun i => (i.zero, i.size, i.bytes)) = some (some (.slice none 0 0), 1, 24) := by kernel_rfl
theorem makeR (X : World) (n : Nat) (hn : n ≤ 1000) : ∃ w1, (Instr.makeSlice 43 (.int .i64 (n : Int)) (.int .i64 (n : Int))).run Try.prog X = .ok (.slice (some ⟨X.heap.size, 0, none⟩) n n) w1 ∧ w1.ownsRow X.heap.size 23 1 (.slice (some ⟨X.heap.size, 0, none⟩) n n) n (List.replicate n (.slice none 0 0)) ∧ Kept (fun _ => False) X w1 := by
  obtain ⟨i, hi, h0, h1, h2⟩ := info_parts info23
  obtain ⟨w1, hr, ho, hg⟩ := run_make_full (P := Try.prog) (w := X) X.heap.size 43 23 i _ 1 Try.underlying43 hi h0 h1 .i64 .i64 n (by rw [h2]; omega) (by simp [maxLen]; omega) (Nat.le_refl _)
  refine ⟨w1, hr, ?_, hg.os, hg.tape, hg.output, hg.size, fun k hk _ => hg.block k hk (by simp)⟩
  rw [Nat.mul_one] at ho
  have e : (madeCells (Value.slice none 0 0).cells n).toList = List.replicate n (.slice none 0 0) := toList_madeCells_one _ n
  rwa [e] at ho
end Go.Proofs.Yticpldlckdckdaa
