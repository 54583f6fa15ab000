/- The pool of entries: the walks of Get and Give. -/
import Derived.Test.YtliabapopgeieaaTkE
namespace Go.Proofs.Ytliabapopgeieaa
open Go.ChangeShapes Go.WideShapes Go.ChangeAt Go.RowKit

theorem RawE.plain {w w' : World} {pa : Nat} {uv bv : Value} {s : St (Int × Int)} (h : RawE w pa uv bv s) (k : Kept (fun _ => False) w w') : RawE w' pa uv bv s :=
  ⟨(k.block pa (lt_of_block h.blk) fun e => e).trans h.blk, own_plain h.used k, own_plain h.back k⟩

theorem knew' (w : World) (o : Obj) : Kept (fun _ => False) w (w.alloc o) := (Kept.refl _ _).alloc o
theorem cell_new' (w : World) (x y : Value) (t : TypeId) : (w.alloc (.cells #[x, y] t)).cell? ⟨w.heap.size, 0, none⟩ = some x := by simp
theorem hbel_cells {W w1 : World} {r : Nat} {x y : Value} (hbel : Below W.heap.size W w1) (hr : W.heap[r]? = some (.cells #[x, y] 37)) :
    r < w1.heap.size ∧ w1.cell? ⟨r, 0, none⟩ = some x ∧ w1.cell? ⟨r, 1, none⟩ = some y ∧ w1.frozen? ⟨r, 0, none⟩ = false ∧ w1.frozen? ⟨r, 1, none⟩ = false ∧ w1.heap[r]? = some (.cells #[x, y] 37) := by
  have h := (hbel.block r (lt_of_block hr)).trans hr
  exact ⟨lt_of_block h, blk_cell h rfl, blk_cell h rfl, blk_free h, blk_free h, h⟩

set_option maxHeartbeats 2000000 in
theorem getE (pa : Nat) (s : St (Int × Int)) (F : Nat → Prop) (a g : Int) (w : World) (h : IsE w F pa s) :
    Calls Try.prog 15 #[.pointer (some ⟨pa, 0, none⟩), .agg #[.int .i64 a, .int .i64 g]] w fun e w' => e = .returned (.tuple #[.agg #[.int .i64 (getS (0, 0) s.pl a g).1, .int .i64 (getS (0, 0) s.pl a g).2], .int .i64 (lookS s.pl a g)]) ∧ Below w.heap.size w w' := by
  obtain ⟨uv, bv, hr, f1, f2, f3, f4⟩ := h
  have hb0 : ∀ b, uv.ownBlock = some b → b < w.heap.size := fun b hb => f4 b (f2 b hb)
  have HR := hid hr
  clear f1 f2 f3 f4 hr
  go_enter Try.func15, Try.ntmps15
  go_wp2_with fail
  refine (findE pa s uv bv a g _ (HR.out.plain (((Kept.refl _ _).alloc _).alloc _))).mono ?_
  rintro e w1 ⟨hbel, p, rfl, hp⟩
  have HB := hid ((((Below.refl w.heap.size w).alloc (Nat.le_refl _) _).alloc (by simp) _).trans (hbel.mono (by simp; omega)))
  obtain ⟨rlt, r0, r1, rf0, rf1, -⟩ := hbel_cells (r := w.heap.size + 1) (x := .int .i64 0) (y := .int .i64 0) hbel (by have := heap_alloc_new (w.alloc (.cells #[.int .i64 a, .int .i64 g] 25)) (.cells #[.int .i64 0, .int .i64 0] 37); simpa using this)
  have HL := hid (getS_no (z := ((0, 0) : Int × Int)) (l := s.pl) (a := a) (g := g))
  rcases lookS_three (l := s.pl) (a := a) (g := g) with hL | hL | hL
  · have hn := HL.out (by rw [hL]; decide)
    have KL := hid hL
    have KN := hid hn
    rw [hL]
    clear hp hbel hL hn hb0
    go_wp2
    refine bodyPost_ret (v := .tuple #[.agg #[.int .i64 0, .int .i64 0], .int .i64 22]) (by rw [results_cell_tmp rfl]; go_simp) rfl ?_
    rw [KL.out, KN.out]
    exact ⟨rfl, ((HB.out.setCell (p := ⟨w.heap.size + 1, 0, none⟩) (by simp) _).setCell (p := ⟨w.heap.size + 1, 1, none⟩) (by simp) _).alloc (by simpa [World.setCell] using HB.out.size) _⟩
  · have hn := HL.out (by rw [hL]; decide)
    have KL := hid hL
    have KN := hid hn
    rw [hL]
    clear hp hbel hL hn hb0
    go_wp2
    refine bodyPost_ret (v := .tuple #[.agg #[.int .i64 0, .int .i64 0], .int .i64 23]) (by rw [results_cell_tmp rfl]; go_simp) rfl ?_
    rw [KL.out, KN.out]
    exact ⟨rfl, ((HB.out.setCell (p := ⟨w.heap.size + 1, 0, none⟩) (by simp) _).setCell (p := ⟨w.heap.size + 1, 1, none⟩) (by simp) _).alloc (by simpa [World.setCell] using HB.out.size) _⟩
  · obtain ⟨b, cap, rfl, rfl⟩ := hp hL
    obtain ⟨h0, x, hx, -, -, -⟩ := lookS_zero hL
    obtain ⟨b', cap', e, hb, _, hf, hc⟩ := ((HR.out.plain (((Kept.refl _ _).alloc _).alloc _)).plain (Kept.of_below hbel)).place hx
    cases e
    have hbw := hb0 b rfl
    have hn := getS_yes (z := ((0, 0) : Int × Int)) hL hx
    have KL := hid hL
    have KN := hid hn
    rw [hL]
    have k0 : w1.cell? ⟨b, a.toNat * 4, none⟩ = some (.int .i64 x.1.1) := hc 0 (by omega)
    have k1 : w1.cell? ⟨b, a.toNat * 4 + 1, none⟩ = some (.int .i64 x.1.2) := hc 1 (by omega)
    clear hp hbel hL hn hc hf hx hb0
    go_wp2
    refine bodyPost_ret (v := .tuple #[.agg #[.int .i64 x.1.1, .int .i64 x.1.2], .int .i64 0]) (by rw [results_cell_tmp rfl]; go_simp) rfl ?_
    rw [KL.out, KN.out]
    exact ⟨rfl, (HB.out.setCell (p := ⟨w.heap.size + 1, 0, none⟩) (by simp) _).setCell (p := ⟨w.heap.size + 1, 1, none⟩) (by simp) _⟩

/-- one place more is given back, laid by append and stored back -/
theorem RawE.backed {w W w1 : World} {F : Nat → Prop} {pa : Nat} {uv bv : Value} {s : St (Int × Int)} {g cap i : Nat} (h : RawE w pa uv bv s) (f1 : F pa) (f2 : ∀ k, uv.ownBlock = some k → F k) (f3 : ∀ k, bv.ownBlock = some k → F k) (f4 : ∀ k, F k → k < w.heap.size)
    (hW : Kept (fun _ => False) w W) (ho : w1.ownsRow 0 3 1 (.slice (some ⟨g, 0, none⟩) (s.back.length + 1) cap) (s.back.length + 1) (row nat1 s.back ++ nat1 i)) (hg : W.grownBy w1 bv.ownBlock) (hat : bv.ownBlock = some g ∨ g = W.heap.size) (hlt : g < w1.heap.size) :
    let w2 := w1.setCell ⟨pa, 2, none⟩ (.slice (some ⟨g, 0, none⟩) (s.back.length + 1) cap)
    IsE w2 (Grow F w w2) pa ⟨s.most, s.pl, s.back ++ [i]⟩ ∧ Kept F w w2 := by
  intro w2
  have hne : bv.ownBlock ≠ some pa := own_ne_block h.back h.blk (by decide)
  have hb1 : w1.heap[pa]? = w.heap[pa]? := (hg.block pa (Nat.lt_of_lt_of_le (f4 pa f1) hW.size) (fun e => hne e.symm)).trans (hW.block pa (f4 pa f1) fun e => e)
  have hb2 : ∀ k, uv.ownBlock = some k → w1.heap[k]? = w.heap[k]? := fun k hk => by
    refine (hg.block k (Nat.lt_of_lt_of_le (f4 k (f2 k hk)) hW.size) (fun e => ?_)).trans (hW.block k (f4 k (f2 k hk)) fun e => e)
    rcases own_ne h.used h.back (by decide) with q | q
    · rw [q] at hk; cases hk
    · exact q (hk.trans e)
  have hblk : w1.heap[pa]? = some (.cells #[.int .i64 s.most, uv, bv] 68 (0, 0)) := hb1.trans h.blk
  have hgp : (Value.slice (some ⟨g, 0, none⟩) (s.back.length + 1) cap).ownBlock ≠ some pa := own_ne_block ho hblk (by decide)
  have hbp : uv.ownBlock ≠ some pa := own_ne_block h.used h.blk (by decide)
  have hk1 : Kept F w w1 := (hW.mono (fun _ e => e.elim)).grown hg (fun k hk => Or.inl (f3 k hk))
  refine ⟨⟨uv, .slice (some ⟨g, 0, none⟩) (s.back.length + 1) cap, ⟨?_, ownsRow_setCell_other (own_same h.used hb2) hbp _, ?_⟩, Or.inl f1, fun k hk => Or.inl (f2 k hk), fun k hk => ?_, Grow.lt f4 (by show _ ≤ (w1.setCell _ _).heap.size; simpa [World.setCell] using hk1.size)⟩, hk1.setCell (Or.inl f1) _⟩
  · have := blk_set (j := 2) (u := .slice (some ⟨g, 0, none⟩) (s.back.length + 1) cap) hblk
    simpa using this
  · have := ownsRow_setCell_other (a := ⟨pa, 2, none⟩) ho hgp (u := .slice (some ⟨g, 0, none⟩) (s.back.length + 1) cap)
    simp only [row_append, List.length_append, List.length_cons, List.length_nil]
    simpa [row] using this
  · cases hk
    rcases hat with q | q
    · exact Or.inl (f3 g q)
    · exact Or.inr ⟨by show _ ≤ g; have := hW.size; omega, by show g < (w1.setCell _ _).heap.size; simpa [World.setCell] using hlt⟩

theorem new0E (w : World) (n m : Int) (h : m = (most0 n : Int)) : IsE (w.alloc (.cells #[.int .i64 m, .slice none 0 0, .slice none 0 0] 68)) (fun k => k = w.heap.size) w.heap.size ⟨most0 n, [], []⟩ :=
  ⟨.slice none 0 0, .slice none 0 0, ⟨by rw [h]; exact heap_alloc_new w _, ⟨rfl, Or.inl ⟨rfl, rfl⟩⟩, ⟨rfl, Or.inl ⟨rfl, rfl⟩⟩⟩, rfl, fun k hk => (by cases hk), fun k hk => (by cases hk), fun k hk => (by subst hk; simp)⟩

set_option maxHeartbeats 1000000 in
theorem newE (n : Int) (w : World) : Calls Try.prog 12 #[.int .i64 n] w fun e w' => ∃ F pa, e = .returned (.pointer (some ⟨pa, 0, none⟩)) ∧ IsE w' F pa ⟨most0 n, [], []⟩ ∧ (∀ k, F k → w.heap.size ≤ k) ∧ Below w.heap.size w w' := by
  go_enter Try.func12, Try.ntmps12
  go_wp2
  all_goals
    go_ret
    exact ⟨_, _, rfl, new0E w n _ (by unfold most0; omega), fun k hk => (by subst hk; exact Nat.le_refl _), (Below.refl _ _).alloc (Nat.le_refl _) _⟩

set_option maxHeartbeats 4000000 in
theorem giveE (pa : Nat) (s : St (Int × Int)) (F : Nat → Prop) (a g : Int) (w : World) (h : IsE w F pa s) (hb : s.back.length ≤ 1000000) :
    Calls Try.prog 13 #[.pointer (some ⟨pa, 0, none⟩), .agg #[.int .i64 a, .int .i64 g]] w fun e w' => e = .returned (.tuple #[.agg #[.int .i64 (getS (0, 0) s.pl a g).1, .int .i64 (getS (0, 0) s.pl a g).2], .int .i64 (lookS s.pl a g)]) ∧ IsE w' (Grow F w w') pa (giveS (0, 0) s a g) ∧ Kept F w w' := by
  have IS := hid h
  obtain ⟨uv, bv, hr, f1, f2, f3, f4⟩ := h
  have HR := hid hr
  have F1 := hid f1
  have F2 := hid f2
  have F3 := hid f3
  have F4 := hid f4
  obtain ⟨ti, hti, hz0, hz1, hz2⟩ := info_parts info3
  have HT := hid hti
  have Z0 := hid hz0
  have Z1 := hid hz1
  have Z2 := hid hz2
  clear f1 f2 f3 f4 hr hti hz0 hz1 hz2
  go_enter Try.func13, Try.ntmps13
  go_wp2_with fail
  refine (findE pa s uv bv a g _ (HR.out.plain ((((Kept.refl _ _).alloc _).alloc _).alloc _))).mono ?_
  rintro e w1 ⟨hbel, p, rfl, hp⟩
  have HB := hid (((((Below.refl w.heap.size w).alloc (Nat.le_refl _) _).alloc (by simp) _).alloc (by simp; omega) _).trans (hbel.mono (by simp; omega)))
  obtain ⟨rlt, r0, r1, rf0, rf1, rb⟩ := hbel_cells (r := w.heap.size + 1) (x := .int .i64 0) (y := .int .i64 0) hbel (by rw [Below.heap_alloc _ _ _ (by simp)]; have := heap_alloc_new (w.alloc (.cells #[.int .i64 a, .int .i64 g] 25)) (.cells #[.int .i64 0, .int .i64 0] 37); simpa using this)
  obtain ⟨zlt, z0, z1, -, -, -⟩ := hbel_cells (r := w.heap.size + 2) (x := .int .i64 0) (y := .int .i64 0) hbel (by have := heap_alloc_new ((w.alloc (.cells #[.int .i64 a, .int .i64 g] 25)).alloc (.cells #[.int .i64 0, .int .i64 0] 37)) (.cells #[.int .i64 0, .int .i64 0] 37); simpa using this)
  have HL := hid (getS_no (z := ((0, 0) : (Int × Int))) (l := s.pl) (a := a) (g := g))
  have HM := hid (giveS_no (z := ((0, 0) : (Int × Int))) (s := s) (a := a) (g := g))
  rcases lookS_three (l := s.pl) (a := a) (g := g) with hL | hL | hL
  · have hn := HL.out (by rw [hL]; decide)
    have hq := HM.out (by rw [hL]; decide)
    have KL := hid hL
    have KN := hid hn
    have KQ := hid hq
    rw [hL]
    clear hp hbel hL hn hq rb
    go_wp2
    refine bodyPost_ret (v := .tuple #[.agg #[.int .i64 0, .int .i64 0], .int .i64 22]) (by rw [results_cell_tmp rfl]; go_simp) rfl ?_
    rw [KL.out, KN.out, KQ.out]
    have hb2 := (HB.out.setCell (p := ⟨w.heap.size + 1, 0, none⟩) (by simp) (.int .i64 0)).setCell (p := ⟨w.heap.size + 1, 1, none⟩) (by simp) (.int .i64 0)
    exact ⟨rfl, IS.out.grow (G := fun _ => False) (Kept.of_below hb2) (fun _ _ e => e), Kept.of_below hb2⟩
  · have hn := HL.out (by rw [hL]; decide)
    have hq := HM.out (by rw [hL]; decide)
    have KL := hid hL
    have KN := hid hn
    have KQ := hid hq
    rw [hL]
    clear hp hbel hL hn hq rb
    go_wp2
    refine bodyPost_ret (v := .tuple #[.agg #[.int .i64 0, .int .i64 0], .int .i64 23]) (by rw [results_cell_tmp rfl]; go_simp) rfl ?_
    rw [KL.out, KN.out, KQ.out]
    have hb2 := (HB.out.setCell (p := ⟨w.heap.size + 1, 0, none⟩) (by simp) (.int .i64 0)).setCell (p := ⟨w.heap.size + 1, 1, none⟩) (by simp) (.int .i64 0)
    exact ⟨rfl, IS.out.grow (G := fun _ => False) (Kept.of_below hb2) (fun _ _ e => e), Kept.of_below hb2⟩
  · obtain ⟨b, cap, rfl, rfl⟩ := hp hL
    obtain ⟨h0, x, hx, -, -, -⟩ := lookS_zero hL
    have hr1 := (HR.out.plain ((((Kept.refl _ _).alloc _).alloc _).alloc _)).plain (Kept.of_below hbel)
    obtain ⟨b', cap', e, hb', hat, hf, hc⟩ := hr1.place hx
    cases e
    have hn := getS_yes (z := ((0, 0) : (Int × Int))) hL hx
    have hq := giveS_yes (z := ((0, 0) : (Int × Int))) hL hx
    have KL := hid hL
    have KN := hid hn
    have KQ := hid hq
    rw [hL]
    have k0 : w1.cell? ⟨b, a.toNat * 4, none⟩ = some (.int .i64 x.1.1) := hc 0 (by omega)
    have k1 : w1.cell? ⟨b, a.toNat * 4 + 1, none⟩ = some (.int .i64 x.1.2) := hc 1 (by omega)
    have k2 : w1.cell? ⟨b, a.toNat * 4 + 2, none⟩ = some (.int .i64 x.2.1) := hc 2 (by omega)
    have k3 : w1.cell? ⟨b, a.toNat * 4 + 3, none⟩ = some (.bool x.2.2) := hc 3 (by omega)
    have HX := hid hx
    have HR1 := hid hr1
    have q0 : w1.cell? ⟨w.heap.size, 0, none⟩ = some (.int .i64 a) := (hbel.cell (p := ⟨w.heap.size, 0, none⟩) (by show w.heap.size < _; simp; omega)).trans (((Kept.refl (fun _ => False) (w.alloc (.cells #[.int .i64 a, .int .i64 g] 25))).alloc _).alloc _ |>.cell (p := ⟨w.heap.size, 0, none⟩) (by simp) (fun e => e) |>.trans (cell_new' w _ _ _))
    have hwl : w.heap.size < w1.heap.size := by omega
    have hb0 : b < w.heap.size := F4.out b (F2.out b rfl)
    have RB := hid rb
    clear hp hbel hL hn hc hx hq hr1 rb
    go_wp2_with fail
    obtain ⟨W, hW⟩ : ∃ W, W = (((w1.setCell ⟨b, a.toNat * 4, none⟩ (.int .i64 0)).setCell ⟨b, a.toNat * 4 + 1, none⟩ (.int .i64 0)).setCell ⟨b, a.toNat * 4 + 3, none⟩ (.bool false)).alloc (.cells #[.int .i64 x.1.1, .int .i64 x.1.2] 37) := ⟨_, rfl⟩
    rw [← hW]
    have R0 := HR1.out.store (i := a.toNat) (j := 0) (o := a.toNat * 4) (u := .int .i64 0) (x' := ((0, x.1.2), x.2)) HX.out (by decide) (by rfl) (by omega)
    have R1 := R0.store (i := a.toNat) (j := 1) (o := a.toNat * 4 + 1) (x := ((0, x.1.2), x.2)) (u := .int .i64 0) (x' := ((0, 0), x.2)) (by simp [hat]) (by decide) (by rfl) (by omega)
    have R2 := R1.store (i := a.toNat) (j := 3) (o := a.toNat * 4 + 3) (x := ((0, 0), x.2)) (u := .bool false) (x' := ((0, 0), x.2.1, false)) (by simp [hat]) (by decide) (by rfl) (by omega)
    simp only [List.set_set] at R2
    have R2 := R2.plain (knew' _ (.cells #[.int .i64 x.1.1, .int .i64 x.1.2] 37))
    rw [← hW] at R2
    have hkW : Kept F w W := by
      rw [hW]
      exact ((((Kept.of_below HB.out).setCell (p := ⟨b, _, none⟩) (Or.inl (F2.out b rfl)) _).setCell (p := ⟨b, _, none⟩) (Or.inl (F2.out b rfl)) _).setCell (p := ⟨b, _, none⟩) (Or.inl (F2.out b rfl)) _).alloc _
    have hqW : W.cell? ⟨w.heap.size, 0, none⟩ = some (.int .i64 a) := by
      rw [hW]
      simp [go_sem, q0, hwl]
    have hwW : w1.heap.size < W.heap.size := by
      rw [hW]
      simp [World.setCell]
    have hhad : W.heap[w1.heap.size]? = some (.cells #[.int .i64 x.1.1, .int .i64 x.1.2] 37) := by
      rw [hW]
      have := heap_alloc_new (((w1.setCell ⟨b, a.toNat * 4, none⟩ (.int .i64 0)).setCell ⟨b, a.toNat * 4 + 1, none⟩ (.int .i64 0)).setCell ⟨b, a.toNat * 4 + 3, none⟩ (.bool false)) (.cells #[.int .i64 x.1.1, .int .i64 x.1.2] 37)
      simpa [World.setCell] using this
    have hres : W.heap[w.heap.size + 1]? = some (.cells #[.int .i64 0, .int .i64 0] 37) := by
      rw [hW]
      rw [Below.heap_alloc _ _ _ (by simpa [World.setCell] using rlt)]
      exact blk_other (blk_other (blk_other RB.out (by show w.heap.size + 1 ≠ b; omega)) (by show w.heap.size + 1 ≠ b; omega)) (by show w.heap.size + 1 ≠ b; omega)
    obtain ⟨hpaW, _, _, h2W⟩ := R2.cells
    have hfW : W.frozen? ⟨pa, 2, none⟩ = false := blk_free R2.blk
    have hpaw : pa < w.heap.size := F4.out pa F1.out
    have hbvw : ∀ k, bv.ownBlock = some k → k < w.heap.size := fun k hk => F4.out k (F3.out k hk)
    obtain ⟨ba, bc, rfl⟩ := own_form HR.out.back
    have RW := hid R2
    have KW := hid hkW
    have hnat : a = (a.toNat : Int) := by omega
    have HN := hid hnat
    have HHAD := hid hhad
    have HRES := hid hres
    have HBV := hid hbvw
    clear hW hkW R2 R0 R1 hnat hf q0 hwl hb' hhad hres hbvw r0 r1 rf0 rf1 z0 z1 k0 k1 k2 k3
    go_region_law (refine step_append_lies _ rfl (.tmp 35) (.tmp 38) 23 rfl 0 3 ti _ 1 8 Try.underlying23 HT.out Z0.out Z1.out Z2.out rfl (by decide) (.slice ba s.back.length bc) s.back.length (row nat1 s.back) (by rfl) (by exact own_plain RW.out.back ((Kept.refl _ _).alloc _).drew) ⟨W.heap.size, 0, none⟩ 1 1 [.int .i64 a] (by rfl) rfl (by exact World.news_of_block (heap_alloc_new W _)) (by simp [Value.oneCell']) (by decide) (by simp [maxLen]; omega) (by omega) (Nat.zero_le _) (W.heap.size + 1) (by simp) ?_; intro g2 cap2 w2 ho hgr hat2 hlt; have hpw : w2.heap[pa]? = W.heap[pa]? := (hgr.block pa (by simp; omega) (fun e => own_ne_block RW.out.back RW.out.blk (by decide) e.symm)).trans (Below.heap_alloc _ _ _ hpaW); have e1 := (World.cell?_of_block (a := ⟨pa, 2, none⟩) hpw).trans h2W; have e2 := (World.frozen?_of_block (a := ⟨pa, 2, none⟩) hpw).trans hfW; have hpa2 := lt_of_block (hpw.trans RW.out.blk); have p1 : w2.heap[w1.heap.size]? = some (.cells #[.int .i64 x.1.1, .int .i64 x.1.2] 37) := (hgr.block _ (by simp; omega) (fun e => by have := HBV.out _ e.symm; omega)).trans ((Below.heap_alloc _ _ _ hwW).trans HHAD.out); have p2 : w2.heap[w.heap.size + 1]? = some (.cells #[.int .i64 0, .int .i64 0] 37) := (hgr.block _ (by simp; omega) (fun e => by have := HBV.out _ e.symm; omega)).trans ((Below.heap_alloc _ _ _ (by omega)).trans HRES.out); have HO := hid ho; have HG := hid hgr; have HA := hid hat2; have HS := hid hlt; have P1 := hid p1; have P2 := hid p2; clear ho hgr hat2 hlt hpw h2W hfW hqW p1 p2)
    all_goals
      have t0 := blk_cell (j := 0) P1.out rfl
      have t1 := blk_cell (j := 1) P1.out rfl
      have t2 := blk_cell (j := 0) P2.out rfl
      have t3 := blk_cell (j := 1) P2.out rfl
      have t4 := blk_free (j := 0) P2.out
      have t5 := blk_free (j := 1) P2.out
      have t6 := lt_of_block P1.out
      have t7 := lt_of_block P2.out
      go_wp2
      refine bodyPost_ret (v := .tuple #[.agg #[.int .i64 x.1.1, .int .i64 x.1.2], .int .i64 0]) (by rw [results_cell_tmp rfl]; go_simp) rfl ?_
      rw [KL.out, KN.out, KQ.out]
      have hpush := RW.out.backed (i := a.toNat) F1.out F2.out F3.out (fun k e => Nat.lt_of_lt_of_le (F4.out k e) KW.out.size) (((Kept.refl _ _).alloc _).drew) (by have := HO.out; rw [HN.out] at this; exact this) HG.out (HA.out.imp id (fun e => by rw [e]; simp)) HS.out
      have hnF : ¬ F (w.heap.size + 1) := fun e => by have := F4.out _ e; omega
      have hnG : ∀ w', ¬ Grow F W w' (w.heap.size + 1) := fun w' e => e.elim hnF fun e => by have := e.1; omega
      have hI2 := (hpush.1.far (p := ⟨w.heap.size + 1, 0, none⟩) (hnG _) (.int .i64 x.1.1)).far (p := ⟨w.heap.size + 1, 1, none⟩) (hnG _) (.int .i64 x.1.2)
      have hK2 := ((KW.out.trans' hpush.2).setCell (p := ⟨w.heap.size + 1, 0, none⟩) (Or.inr (by simp)) (.int .i64 x.1.1)).setCell (p := ⟨w.heap.size + 1, 1, none⟩) (Or.inr (by simp)) (.int .i64 x.1.2)
      exact ⟨rfl, hI2.widen (fun k e => e.imp id fun e => ⟨Nat.le_trans KW.out.size e.1, by simpa [World.setCell] using e.2⟩) (Grow.lt F4.out hK2.size), hK2⟩
end Go.Proofs.Ytliabapopgeieaa
