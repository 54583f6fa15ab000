/- The document's pool: the walk of its Give. -/
import Derived.Test.YtliabapopgeieaaRg
import Derived.Deep.Onto
namespace Go.Proofs.Ytliabapopgeieaa
open Go.ChangeShapes Go.WideShapes Go.ChangeAt Go.RowKit

/-- a row appended to a row -/
theorem append_row (w : World) (base : Nat) (t ty e : TypeId) (i : TypeInfo) (z : Value) (size bytes : Nat) (ht : Try.prog.underlying t = some (.slice e)) (hi : Try.prog.info? e = some i) (hz : i.zero = some z) (hsize : i.size = size) (hby : i.bytes = bytes) (hzs : z.cells.size = size) (hsz : 0 < size)
    (v x : Value) (n m : Nat) (xs news : List Value) (hown : w.ownsRow base e size v n xs) (hx : w.ownsRow 0 e size x m news) (h1 : ∀ u ∈ news, u.oneCell' = true) (h63 : n + m ≤ maxLen) (hbytes : (n + m) * bytes ≤ 140737488355328) (hbase : base ≤ w.heap.size) :
    ∃ v' w', (Builtin.append_ #[t, t] ty #[v, x]).run Try.prog w = .ok v' w' ∧ w'.ownsRow base e size v' (n + m) (xs ++ news) ∧ w.grownBy w' v.ownBlock := by
  rcases hx.2 with ⟨rfl, rfl⟩ | ⟨g, cap, cur, rfl, _, hg, _, _, _, htake⟩
  · have hn : news = [] := List.eq_nil_of_length_eq_zero (by simpa using hx.1)
    subst hn
    exact ⟨v, w, run_append_owned_none (P := Try.prog) w base t ty e i size ht hi v n xs hown, by simpa using hown, ⟨rfl, rfl, rfl, Nat.le_refl _, fun _ _ _ => rfl⟩⟩
  · obtain ⟨v', w', hr, q1, q2, _⟩ := run_append_own (P := Try.prog) w base t ty e i z size bytes ht hi hz hsize hby hzs hsz v n xs hown ⟨g, 0, none⟩ m cap news hx.1 (hx.cells rfl) h1 h63 hbytes hbase
    exact ⟨v', w', hr, q1, q2⟩

theorem step_append_row {ops : Array Oper} {o : Oper} {a : Act} {w : World} {K : Act → World → Prop} {Q : Exit → Act → World → Prop} {E : Prop} (hgd : o.guard = none) (s y : Operand) (t : TypeId)
    (ho : o.op = .call { callee := .builtin .append, args := #[s, y], argTypes := #[t, t] })
    (base : Nat) (e : TypeId) (i : TypeInfo) (z : Value) (size bytes : Nat) (ht : Try.prog.underlying t = some (.slice e)) (hi : Try.prog.info? e = some i) (hz : i.zero = some z)
    (hsize : i.size = size) (hby : i.bytes = bytes) (hzs : z.cells.size = size) (hsz : 0 < size)
    (v x : Value) (n m : Nat) (xs news : List Value) (hs : a.eval s = v) (hy : a.eval y = x) (hown : w.ownsRow base e size v n xs) (hx : w.ownsRow 0 e size x m news) (h1 : ∀ u ∈ news, u.oneCell' = true)
    (h63 : n + m ≤ maxLen) (hbytes : (n + m) * bytes ≤ 140737488355328) (hbase : base ≤ w.heap.size)
    (h : ∀ v' w', w'.ownsRow base e size v' (n + m) (xs ++ news) → w.grownBy w' v.ownBlock → K (a.put o.dst v') w') :
    if Region.wanted o (yielded ops a.tmps) = true then Oper.wp Try.prog o a w K Q else E := by
  have hw : Region.wanted o (yielded ops a.tmps) = true := by simp [Region.wanted, hgd]
  rw [if_pos hw]
  obtain ⟨v', w', hr, h2, h3⟩ := append_row w base t o.type e i z size bytes ht hi hz hsize hby hzs hsz v x n m xs news hown hx h1 h63 hbytes hbase
  unfold Oper.wp execOp
  simp only [ho, resolve, invoke, builtin, Sem.run_bind, Sem.run_pure, Result.andThen_ok, List.map_toArray, List.map_cons, List.map_nil, hs, hy, hr]
  exact h v' w' h2 h3

theorem emp1 (W : World) : ((W.alloc (.cells #[] 3)).drew).ownsRow W.heap.size 3 1 (.slice (some ⟨W.heap.size, 0, none⟩) 0 0) 0 [] := World.ownsRow_made (e := 3) (size := 1) W #[] 0 (Nat.le_refl _) (Nat.zero_le _) rfl
theorem emp2 (W : World) (o : Obj) : (((W.alloc (.cells #[] 3)).alloc o).drew).ownsRow W.heap.size 3 1 (.slice (some ⟨W.heap.size, 0, none⟩) 0 0) 0 [] := World.ownsRow.alloc (World.ownsRow_made (e := 3) (size := 1) W #[] 0 (Nat.le_refl _) (Nat.zero_le _) rfl) o
theorem emp3 (W : World) (o : Obj) : (((W.alloc o).alloc (.cells #[] 3)).drew).ownsRow W.heap.size 3 1 (.slice (some ⟨W.heap.size + 1, 0, none⟩) 0 0) 0 [] := by
  have := World.ownsRow_made (base := W.heap.size) (e := 3) (size := 1) (W.alloc o) #[] 0 (by simp) (Nat.zero_le _) rfl
  have e : (W.alloc o).heap.size = W.heap.size + 1 := by simp
  rw [e] at this
  exact this
theorem lit1 {w : World} {B : Nat} {u : Value} (h : w.heap[B]? = some (.cells #[u] 3)) : w.ownsRow 0 3 1 (.slice (some ⟨B, 0, none⟩) 1 1) 1 [u] := ⟨rfl, Or.inr ⟨B, 1, #[u], rfl, Nat.zero_le _, h, Nat.le_refl _, by decide, rfl, rfl⟩⟩
theorem k1 (W : World) (o : Obj) : Kept (fun _ => False) W (W.alloc o).drew := ((Kept.refl _ _).alloc _).drew
theorem k2 (W : World) (o o' : Obj) : Kept (fun _ => False) W ((W.alloc o).alloc o').drew := (((Kept.refl _ _).alloc _).alloc _).drew
theorem new_at1 (W : World) (o o' : Obj) : ((W.alloc o).alloc o').drew.heap[W.heap.size + 1]? = some o' := by
  have := heap_alloc_new (W.alloc o) o'
  have e : (W.alloc o).heap.size = W.heap.size + 1 := by simp
  rw [e] at this
  exact this
theorem new_at0 (W : World) (o o' : Obj) : ((W.alloc o).alloc o').drew.heap[W.heap.size]? = some o := (Below.heap_alloc (W.alloc o) o' W.heap.size (by simp)).trans (heap_alloc_new W o)

/-- a life that is over, in the document's pool: it keeps its value -/
def giveM (s : St Int) (a g : Int) : St Int := if lookS s.pl a g = 0 then ⟨s.most, s.pl.set a.toNat (getS 0 s.pl a g, livS s a.toNat, false), s.back ++ [a.toNat]⟩ else s
theorem giveM_no {s : St Int} {a g : Int} (h : lookS s.pl a g ≠ 0) : giveM s a g = s := by unfold giveM; rw [if_neg h]
theorem giveM_yes {s : St Int} {a g : Int} {x : Int × Nat × Bool} (h : lookS s.pl a g = 0) (hx : s.pl[a.toNat]? = some x) : giveM s a g = ⟨s.most, s.pl.set a.toNat (x.1, x.2.1, false), s.back ++ [a.toNat]⟩ := by unfold giveM livS; rw [if_pos h, hx, getS_yes h hx]

/-- a mark turned -/
theorem RawR.marked {w : World} {pa : Nat} {gv vv bv : Value} {s : St Int} {g cap n : Nat} (h : RawR w pa gv (.slice (some ⟨g, 0, none⟩) n cap) vv bv s) {i : Nat} {x : Int × Nat × Bool} (t : Bool) (hx : s.pl[i]? = some x) :
    RawR (w.setCell ⟨g, i, none⟩ (.bool t)) pa gv (.slice (some ⟨g, 0, none⟩) n cap) vv bv ⟨s.most, s.pl.set i (x.1, x.2.1, t), s.back⟩ := by
  have hn : n = s.pl.length := by
    rcases h.ins.2 with ⟨e, _⟩ | ⟨g', cap', cur, e, _⟩
    · cases e
    · cases e; rfl
  subst hn
  have hne : (Value.slice (some ⟨g, 0, none⟩) s.pl.length cap).ownBlock ≠ some pa := own_ne_block h.ins h.blk (by decide)
  have hgp : pa ≠ g := fun e => hne (by rw [e]; rfl)
  have o1 : gv.ownBlock ≠ some g := by
    rcases own_ne h.gens h.ins (by decide) with q | q
    · rw [q]; simp
    · exact q
  have o2 : vv.ownBlock ≠ some g := by
    rcases own_ne h.vals h.ins (by decide) with q | q
    · rw [q]; simp
    · exact q
  have o3 : bv.ownBlock ≠ some g := by
    rcases own_ne h.back h.ins (by decide) with q | q
    · rw [q]; simp
    · exact q
  have hs := (h.ins.stored i (.bool t)).1
  have hrow := row_set in1_len s.pl i 0 x (x.1, x.2.1, t) (.bool t) hx (by decide) rfl
  simp only [Nat.mul_one, Nat.add_zero] at hrow
  rw [hrow] at hs
  have hg : row gen1 (s.pl.set i (x.1, x.2.1, t)) = row gen1 s.pl := row_like _ _ _ _ hx rfl
  have hi : row val1 (s.pl.set i (x.1, x.2.1, t)) = row val1 s.pl := row_like _ _ _ _ hx rfl
  exact ⟨blk_other h.blk hgp, by simpa [hg] using ownsRow_setCell_other (a := ⟨g, i, none⟩) h.gens o1 (.bool t), by simpa using hs, by simpa [hi] using ownsRow_setCell_other (a := ⟨g, i, none⟩) h.vals o2 (.bool t), ownsRow_setCell_other h.back o3 _, h.apart⟩

set_option maxHeartbeats 4000000 in
theorem giveR (pa : Nat) (s : St Int) (F : Nat → Prop) (a g : Int) (w : World) (h : IsR w F pa s) (hb : s.back.length ≤ 1000000) :
    Calls Try.prog 23 #[.pointer (some ⟨pa, 0, none⟩), .agg #[.int .i64 a, .int .i64 g]] w fun e w' => e = .returned (.tuple #[.int .i64 (getS 0 s.pl a g), .int .i64 (lookS s.pl a g)]) ∧ IsR w' (Grow F w w') pa (giveM s a g) ∧ Kept F w w' := by
  have IS := hid h
  obtain ⟨gv, iv, vv, bv, hr, f1, f2, f3, f4, f5, f6⟩ := h
  have HR := hid hr
  have F1 := hid f1
  have F2 := hid f2
  have F3 := hid f3
  have F4 := hid f4
  have F5 := hid f5
  have F6 := hid f6
  obtain ⟨ti, hti, hz0, hz1, hz2⟩ := info_parts info3
  have HT := hid hti
  have Z0 := hid hz0
  have Z1 := hid hz1
  have Z2 := hid hz2
  clear hr f1 f2 f3 f4 f5 f6 hti hz0 hz1 hz2
  go_enter Try.func23, Try.ntmps23
  go_wp2_with fail
  refine (lookR pa s gv iv vv bv a g _ (HR.out.plain ((Kept.refl _ _).alloc _))).mono ?_
  rintro e w1 ⟨rfl, hbel⟩
  have HB := hid (((Below.refl w.heap.size w).alloc (Nat.le_refl _) _).trans (hbel.mono (by simp)))
  have HL := hid (getS_no (z := (0 : Int)) (l := s.pl) (a := a) (g := g))
  have HM := hid (giveM_no (s := s) (a := a) (g := g))
  rcases lookS_three (l := s.pl) (a := a) (g := g) with hL | hL | hL
  · have KN := hid (HL.out (by rw [hL]; decide))
    have KQ := hid (HM.out (by rw [hL]; decide))
    have KL := hid hL
    rw [hL]
    clear hbel hL
    go_wp2
    go_ret2
    rw [KL.out, KN.out, KQ.out]
    exact ⟨rfl, IS.out.grow (G := fun _ => False) (Kept.of_below HB.out) (fun _ _ e => e), Kept.of_below HB.out⟩
  · have KN := hid (HL.out (by rw [hL]; decide))
    have KQ := hid (HM.out (by rw [hL]; decide))
    have KL := hid hL
    rw [hL]
    clear hbel hL
    go_wp2
    go_ret2
    rw [KL.out, KN.out, KQ.out]
    exact ⟨rfl, IS.out.grow (G := fun _ => False) (Kept.of_below HB.out) (fun _ _ e => e), Kept.of_below HB.out⟩
  · obtain ⟨h0, x, hx, -, -, -⟩ := lookS_zero hL
    have hr1 := (HR.out.plain ((Kept.refl _ _).alloc _)).plain (Kept.of_below hbel)
    obtain ⟨hpa, -, -, h2, -, -⟩ := hr1.cells
    obtain ⟨b, cap, rfl, hbl, hfz, hc⟩ := own1_get in1_len hr1.ins hx
    replace hc : w1.cell? ⟨b, a.toNat, none⟩ = some (.bool x.2.2) := hc
    have hlt : a < (s.pl.length : Int) := by have := (List.getElem?_eq_some_iff.1 hx).1; omega
    have KN := hid (getS_yes (z := (0 : Int)) hL hx)
    have KQ := hid (giveM_yes hL hx)
    have KL := hid hL
    have HX := hid hx
    have HS := hid (hr1.marked false hx)
    have q0 : w1.cell? ⟨w.heap.size, 0, none⟩ = some (.int .i64 a) := (hbel.cell (p := ⟨w.heap.size, 0, none⟩) (by simp)).trans (by simp)
    have hwl : w.heap.size < w1.heap.size := Nat.lt_of_lt_of_le (by simp) hbel.size
    have hbw : b < w.heap.size := F6.out b (F3.out b rfl)
    rw [hL]
    clear hbel hL hx hr1
    go_wp2_with fail
    go_region
    go_wp2_with fail
    obtain ⟨W, hW⟩ : ∃ W, W = (w1.setCell ⟨b, a.toNat, none⟩ (.bool false)).drew := ⟨_, rfl⟩
    rw [← hW]
    have RW : RawR W pa gv (.slice (some ⟨b, 0, none⟩) s.pl.length cap) vv bv ⟨s.most, s.pl.set a.toNat (x.1, x.2.1, false), s.back⟩ := by rw [hW]; exact HS.out.plain ((Kept.refl _ _).drew)
    have hkW : Kept F w W := by rw [hW]; exact ((Kept.of_below HB.out).setCell (p := ⟨b, _, none⟩) (Or.inl (F3.out b rfl)) _).drew
    have hqW : W.cell? ⟨w.heap.size, 0, none⟩ = some (.int .i64 a) := by rw [hW]; simp [go_sem, q0]
    have hwW : w.heap.size < W.heap.size := by rw [hW]; simpa [World.setCell] using hwl
    obtain ⟨hpaW, _, _, _, h3W, h4W⟩ := RW.cells
    have hfW : W.frozen? ⟨pa, 4, none⟩ = false := blk_free RW.blk
    have RR := hid RW
    have KW := hid hkW
    have HN := hid (show a = (a.toNat : Int) by omega)
    clear hW RW hkW q0 hwl hfz hc h2 hpa hbl
    obtain ⟨vb, vcap, rfl, hvb, -, hvc⟩ := own1_get val1_len RR.out.vals (show (s.pl.set a.toNat (x.1, x.2.1, false))[a.toNat]? = some (x.1, x.2.1, false) by rw [List.getElem?_set_self (List.getElem?_eq_some_iff.1 HX.out).1])
    replace hvc : W.cell? ⟨vb, a.toNat, none⟩ = some (.int .i64 x.1) := hvc
    have hvlt : a < ((s.pl.set a.toNat (x.1, x.2.1, false)).length : Int) := by simpa using hlt
    simp only [] at h3W hvb
    generalize (s.pl.set a.toNat (x.1, x.2.1, false)).length = vn at *
    go_region_law (first
      | (refine step_append_row rfl (.tmp 21) (.tmp 25) 23 rfl W.heap.size 3 ti _ 1 8 Try.underlying23 HT.out Z0.out Z1.out Z2.out rfl (by decide) _ bv 0 s.back.length [] (row nat1 s.back) rfl rfl (by first | exact emp1 W | exact emp2 W _ | exact emp3 W _) (by exact own_plain RR.out.back (by first | exact k1 W _ | exact k2 W _ _)) (row_one nat1_one _) (by simp [maxLen]; omega) (by omega) (by simp <;> omega) ?_; intro v1 w2 o1 g1; have KF : Kept (fun _ => False) W w2 := Kept.grown (by first | exact k1 W _ | exact k2 W _ _) g1 (fun k hk => Or.inr (by cases hk; simp)); (first | (have hB : w2.heap[W.heap.size + 1]? = some (.cells #[.int .i64 a] 3) := (g1.block _ (by simp) (show some (W.heap.size + 1) ≠ some W.heap.size by simp)).trans (new_at1 W _ _)) | (have hB : w2.heap[W.heap.size]? = some (.cells #[.int .i64 a] 3) := (g1.block _ (by simp <;> omega) (show some W.heap.size ≠ some (W.heap.size + 1) by simp)).trans (new_at0 W _ _)) | skip); have O1 := hid o1; have c1 := (KF.cell (p := ⟨pa, 4, none⟩) hpaW fun e => e).trans h4W; have c2 := (World.frozen?_of_block (a := ⟨pa, 4, none⟩) (KF.block pa hpaW fun e => e)).trans hfW; have c3 := (KF.cell (p := ⟨w.heap.size, 0, none⟩) hwW fun e => e).trans hqW; have hs2 := KF.size; have KF2 := hid KF; clear o1 g1 KF)
      | (refine step_append_row rfl (.tmp 26) (.tmp 29) 23 rfl W.heap.size 3 ti _ 1 8 Try.underlying23 HT.out Z0.out Z1.out Z2.out rfl (by decide) v1 _ (0 + s.back.length) 1 ([] ++ row nat1 s.back) [.int .i64 a] rfl rfl (by first | exact O1.out | exact own_plain O1.out ((Kept.refl _ _).alloc _)) (by first | exact lit1 hB | exact lit1 (heap_alloc_new w2 _)) (by simp [Value.oneCell']) (by simp [maxLen]; omega) (by omega) (by first | exact hs2 | (simp; omega)) ?_; intro v2 w3 o2 g2; obtain ⟨bb, bc, rfl, hbb, hbl3⟩ := o2.form (by omega); have KF : Kept (fun _ => False) W w3 := Kept.grown (by first | exact KF2.out | exact KF2.out.alloc _) g2 (fun k hk => Or.inr (O1.out.lt k hk).1); have O2 := hid o2; have d1 := (KF.cell (p := ⟨pa, 4, none⟩) hpaW fun e => e).trans h4W; have d2 := (World.frozen?_of_block (a := ⟨pa, 4, none⟩) (KF.block pa hpaW fun e => e)).trans hfW; have hpa3 : pa < w3.heap.size := Nat.lt_of_lt_of_le hpaW KF.size; have KF3 := hid KF; clear o2 g2 KF))
    all_goals
      have e3 := (KF3.out.cell (p := ⟨pa, 3, none⟩) hpaW fun e => e).trans h3W
      have e4 := (KF3.out.cell (p := ⟨vb, a.toNat, none⟩) hvb fun e => e).trans hvc
      have e5 := (KF3.out.cell (p := ⟨w.heap.size, 0, none⟩) hwW fun e => e).trans hqW
      have hs3 := KF3.out.size
      have hwpa : w.heap.size ≠ pa := Nat.ne_of_gt (F6.out pa F1.out)
      have hvpa : vb ≠ pa := fun e => own_ne_block RR.out.vals RR.out.blk (by decide) (by rw [e]; rfl)
      have hw3 : w.heap.size < w3.heap.size := Nat.lt_of_lt_of_le hwW hs3
      have hv3 : vb < w3.heap.size := Nat.lt_of_lt_of_le hvb hs3
      clear d1 d2 h4W hqW h3W hvc hfW
      go_wp2_with fail
      go_quiet (fail)
      go_wp2
      go_ret2
      rw [KL.out, KN.out, KQ.out]
      have R3 := RR.out.plain KF3.out
      have hn1 : gv.ownBlock ≠ some pa := own_ne_block RR.out.gens RR.out.blk (by decide)
      have hn2 := own_ne_block RR.out.ins RR.out.blk (by decide)
      have hn3 := own_ne_block RR.out.vals RR.out.blk (by decide)
      have hbp : bb ≠ pa := by omega
      have hO : w3.ownsRow 0 3 1 (.slice (some ⟨bb, 0, none⟩) (s.back.length + 1) bc) (s.back ++ [a.toNat]).length (row nat1 (s.back ++ [a.toNat])) := by
        have := (O2.out).mono (Nat.zero_le _)
        rw [row_append, List.length_append]
        rw [HN.out] at this
        simpa [nat1, row] using this
      have hkF : Kept F w (w3.setCell ⟨pa, 4, none⟩ (.slice (some ⟨bb, 0, none⟩) (s.back.length + 1) bc)) := (KW.out.trans' (KF3.out.mono fun _ e => e.elim)).setCell (p := ⟨pa, 4, none⟩) (Or.inl F1.out) _
      have hblk := blk_set (j := 4) (u := .slice (some ⟨bb, 0, none⟩) (s.back.length + 1) bc) R3.blk
      refine ⟨rfl, ⟨gv, _, _, .slice (some ⟨bb, 0, none⟩) (s.back.length + 1) bc, RawR.plain (w := w3.setCell ⟨pa, 4, none⟩ (.slice (some ⟨bb, 0, none⟩) (s.back.length + 1) bc)) ⟨by simpa using hblk, ownsRow_setCell_other R3.gens hn1 _, ownsRow_setCell_other R3.ins hn2 _, ownsRow_setCell_other R3.vals hn3 _, ownsRow_setCell_other hO (by simp [Value.ownBlock]; omega) _, fun k hk e => ?_⟩ ((Kept.refl _ _).drewN _), Or.inl F1.out, fun k hk => Or.inl (F2.out k hk), fun k hk => Or.inl (F3.out k hk), fun k hk => Or.inl (F4.out k hk), fun k hk => ?_, Grow.lt F6.out (by have := hkF.size; simpa using this)⟩, hkF.drewN _⟩
      · have q1 := F6.out k (F2.out k hk)
        have q2 : bb = k := by simpa [Value.ownBlock] using e
        have q3 := KW.out.size
        omega
      · cases hk
        exact Or.inr ⟨Nat.le_trans KW.out.size hbb, by simpa [World.setCell] using hbl3⟩
end Go.Proofs.Ytliabapopgeieaa
