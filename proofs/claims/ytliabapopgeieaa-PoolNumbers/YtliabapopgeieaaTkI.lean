/- The pool of int64: the walks of New, Take, Get, Give. -/
import Derived.Test.YtliabapopgeieaaNxI
import Derived.Laws.ResultCell
namespace Go.Proofs.Ytliabapopgeieaa
open Go.ChangeShapes Go.WideShapes Go.ChangeAt Go.RowKit

/-- a cell of another's block turned -/
theorem IsI.far {w : World} {F : Nat → Prop} {pa : Nat} {s : St Int} (h : IsI w F pa s) {p : Addr} (hp : ¬ F p.block) (u : Value) : IsI (w.setCell p u) F pa s :=
  h.kept (G := fun k => k = p.block) (Kept.setCell (p := p) (Kept.refl (fun k => k = p.block) w) (Or.inl rfl) u) fun _ hk e => hp (e ▸ hk)

/-- a cell of a place turned -/
theorem RawI.store {w : World} {pa : Nat} {bv : Value} {s : St Int} {g cap n : Nat} (h : RawI w pa (.slice (some ⟨g, 0, none⟩) n cap) bv s) {i j o : Nat} {x x' : Int × Nat × Bool} {u : Value} (hx : s.pl[i]? = some x) (hj : j < 3) (hu : (plI x).set j u = plI x') (ho : o = i * 3 + j) :
    RawI (w.setCell ⟨g, o, none⟩ u) pa (.slice (some ⟨g, 0, none⟩) n cap) bv ⟨s.most, s.pl.set i x', s.back⟩ := by
  subst ho
  have hn : n = s.pl.length := by
    rcases h.used.2 with ⟨e, _⟩ | ⟨g', cap', cur, e, _⟩
    · cases e
    · cases e; rfl
  subst hn
  have hne : (Value.slice (some ⟨g, 0, none⟩) s.pl.length cap).ownBlock ≠ some pa := own_ne_block h.used h.blk (by decide)
  have hgp : pa ≠ g := fun e => hne (by rw [e]; rfl)
  have hbg : bv.ownBlock ≠ some g := by
    rcases own_ne h.back h.used (by decide) with q | q
    · rw [q]; simp
    · exact q
  refine ⟨blk_other h.blk hgp, ?_, ownsRow_setCell_other h.back hbg _⟩
  have := (h.used.stored (i * 3 + j) u).1
  rw [row_set plI_len s.pl i j x x' u hx hj hu] at this
  simpa using this

set_option maxHeartbeats 2000000 in
theorem takeI (pa : Nat) (s : St Int) (F : Nat → Prop) (v : Int) (w : World) (h : IsI w F pa s) (hm : s.pl.length ≤ 100000) (hb : s.back.length ≤ 100000) (hbk : ∀ b ∈ s.back, b < s.pl.length) (hl : ∀ x ∈ s.pl, x.2.1 ≤ 100000) :
    Calls Try.prog 28 #[.pointer (some ⟨pa, 0, none⟩), .int .i64 v] w fun e w' => e = .returned (.tuple #[.agg #[.int .i64 (tookS 0 s).1, .int .i64 (tookS 0 s).2], .bool (nextS 0 s).2.2]) ∧ IsI w' (Grow F w w') pa (takeS 0 v s) ∧ Kept F w w' := by
  have IS := hid h
  clear h
  go_enter Try.func28, Try.ntmps28
  go_wp2_with fail
  have hI0 := IS.out.kept ((Kept.refl (fun _ => False) w).alloc (.cells #[.int .i64 0, .int .i64 0] 25)) (fun _ _ e => e)
  refine (nextI pa s F _ hI0 (by omega) (by omega) hbk).mono ?_
  rintro e w1 ⟨rfl, hI, hK⟩
  have hrF : ¬ F w.heap.size := fun e => Nat.lt_irrefl _ (IS.out.lt _ e)
  have hr : w.heap.size < (w.alloc (.cells #[.int .i64 0, .int .i64 0] 25)).heap.size := by simp
  have r0 : w1.cell? ⟨w.heap.size, 0, none⟩ = some (.int .i64 0) := (hK.cell (p := ⟨w.heap.size, 0, none⟩) hr hrF).trans (by simp)
  have r1 : w1.cell? ⟨w.heap.size, 1, none⟩ = some (.int .i64 0) := (hK.cell (p := ⟨w.heap.size, 1, none⟩) hr hrF).trans (by simp)
  have rb : w1.heap[w.heap.size]? = some (.cells #[.int .i64 0, .int .i64 0] 25) := (hK.block _ hr hrF).trans (heap_alloc_new w _)
  have rf0 : w1.frozen? ⟨w.heap.size, 0, none⟩ = false := blk_free rb
  have rf1 : w1.frozen? ⟨w.heap.size, 1, none⟩ = false := blk_free rb
  have rlt : w.heap.size < w1.heap.size := lt_of_block rb
  have hwF : ∀ k, Grow F (w.alloc (.cells #[.int .i64 0, .int .i64 0] 25)) w1 k → Grow F w w1 k := fun k e => e.imp id fun e => ⟨by have := e.1; simp at this; omega, e.2⟩
  have hrG : ¬ Grow F (w.alloc (.cells #[.int .i64 0, .int .i64 0] 25)) w1 w.heap.size := fun e => by
    rcases e with e | e
    · exact hrF e
    · have := e.1; simp at this; omega
  have HK := hid ((Kept.alloc (Kept.refl F w) (.cells #[.int .i64 0, .int .i64 0] 25)).trans' hK)
  have hin := nextS_in (z := (0 : Int)) hbk
  have hno := nextS_no (z := (0 : Int)) (s := s)
  have HF := hid hwF
  have HG := hid hrG
  clear hK hr hI0 hbk hrF hwF hrG rb
  cases hq : nextS (0 : Int) s with
  | mk s1 q =>
  obtain ⟨at1, ok⟩ := q
  rw [hq] at hin hno hI
  simp only [] at hin hno hI
  have HQ := hid hq
  clear hq
  cases ok with
  | false =>
    obtain rfl := hno rfl
    have HI := hid hI
    clear hI hin hno
    go_wp2
    refine bodyPost_ret (v := .tuple #[.agg #[.int .i64 0, .int .i64 0], .bool false]) (by rw [results_cell_tmp rfl]; go_simp) rfl ?_
    have e1 : tookS (0 : Int) s1 = (0, 0) := by unfold tookS; rw [HQ.out]; rfl
    have e2 : takeS (0 : Int) v s1 = s1 := by unfold takeS; rw [HQ.out]; rfl
    rw [e1, e2, HQ.out]
    refine ⟨rfl, ((HI.out.far (p := ⟨w.heap.size, 0, none⟩) HG.out _).far (p := ⟨w.heap.size, 1, none⟩) HG.out _).widen (fun k e => (HF.out k e).imp id fun e => ⟨e.1, by simpa [World.setCell] using e.2⟩) (Grow.lt IS.out.lt (by simpa [World.setCell] using HK.out.size)), (HK.out.setCell (p := ⟨w.heap.size, 0, none⟩) (Or.inr (Nat.le_refl _)) _).setCell (p := ⟨w.heap.size, 1, none⟩) (Or.inr (Nat.le_refl _)) _⟩
  | true =>
    have hat := hin rfl
    have hx : s1.pl[at1]? = some s1.pl[at1] := List.getElem?_eq_getElem hat
    have hll : s1.pl[at1].2.1 ≤ 100000 := nextS_liv HQ.out hl _ (List.getElem_mem hat)
    have hl2 : s1.pl.length ≤ 100001 := by have := nextS_len (z := (0 : Int)) (s := s); rw [HQ.out] at this; simp only [] at this; omega
    obtain ⟨uv, bv, hr, f1, f2, f3, f4⟩ := hI
    obtain ⟨hpa, h0, h1, h2⟩ := hr.cells
    obtain ⟨g, cap, rfl, hg, _, hf, hc⟩ := hr.place hx
    have HX := hid hx
    generalize s1.pl[at1] = x at hc HX hll
    have HR := hid hr
    have hgr : g ≠ w.heap.size := fun e => HG.out (e ▸ f2 g rfl)
    have hpg : g ≠ pa := fun e => own_ne_block hr.used hr.blk (by decide) (by rw [e]; rfl)
    have k0 : w1.cell? ⟨g, at1 * 3, none⟩ = some (.int .i64 x.1) := hc 0 (by omega)
    have k1 : w1.cell? ⟨g, at1 * 3 + 1, none⟩ = some (.int .i64 x.2.1) := hc 1 (by omega)
    have k2 : w1.cell? ⟨g, at1 * 3 + 2, none⟩ = some (.bool x.2.2) := hc 2 (by omega)
    have F1 := hid f1
    have F2 := hid f2
    have F3 := hid f3
    have F4 := hid f4
    clear hc hx hr hin hno hm hb h0 h2 hl f1 f2 f3 f4
    go_wp2
    refine bodyPost_ret (v := .tuple #[.agg #[.int .i64 at1, .int .i64 ((x.2.1 : Int) + 1)], .bool true]) (by rw [results_cell_tmp rfl]; go_simp) rfl ?_
    have el : livS s1 at1 = x.2.1 := by unfold livS; rw [HX.out]
    have e1 : tookS (0 : Int) s = (at1, x.2.1 + 1) := by unfold tookS; rw [HQ.out]; simp [el]
    have e2 : takeS (0 : Int) v s = ⟨s1.most, s1.pl.set at1 (v, x.2.1 + 1, true), s1.back⟩ := by unfold takeS; rw [HQ.out]; simp [el]
    rw [e1, e2, HQ.out]
    have R0 := HR.out.store (i := at1) (j := 0) (o := at1 * 3) (x' := (v, x.2)) HX.out (by decide) (by rfl) (by omega)
    have R1 := R0.store (i := at1) (j := 1) (o := at1 * 3 + 1) (x := (v, x.2)) (x' := (v, x.2.1 + 1, x.2.2)) (by simp [hat]) (by decide) (by rfl) (by omega)
    have R2 := R1.store (i := at1) (j := 2) (o := at1 * 3 + 2) (x := (v, x.2.1 + 1, x.2.2)) (x' := (v, x.2.1 + 1, true)) (by simp [hat]) (by decide) (by rfl) (by omega)
    simp only [List.set_set] at R2
    have hFg : F g ∨ w.heap.size ≤ g := (HF.out g (F2.out g rfl)).imp id fun e => e.1
    have hI : IsI _ (Grow F (w.alloc (.cells #[.int .i64 0, .int .i64 0] 25)) w1) pa ⟨s1.most, s1.pl.set at1 (v, x.2.1 + 1, true), s1.back⟩ := ⟨_, bv, R2, F1.out, F2.out, F3.out, fun k e => by simpa [World.setCell] using F4.out k e⟩
    refine ⟨rfl, ((hI.far (p := ⟨w.heap.size, 0, none⟩) HG.out _).far (p := ⟨w.heap.size, 1, none⟩) HG.out _).widen (fun k e => (HF.out k e).imp id fun e => ⟨e.1, by simpa [World.setCell] using e.2⟩) (Grow.lt IS.out.lt (by simpa [World.setCell] using HK.out.size)), ?_⟩
    exact ((((HK.out.setCell (p := ⟨g, _, none⟩) hFg _).setCell (p := ⟨g, _, none⟩) hFg _).setCell (p := ⟨g, _, none⟩) hFg _).setCell (p := ⟨w.heap.size, 0, none⟩) (Or.inr (Nat.le_refl _)) _).setCell (p := ⟨w.heap.size, 1, none⟩) (Or.inr (Nat.le_refl _)) _
end Go.Proofs.Ytliabapopgeieaa
