/- The document's pool: the walk of its Take. -/
import Derived.Test.YtliabapopgeieaaRg
import Derived.Laws.ResultCell
import Derived.Deep.DeepCutAuto
import Derived.Test.YtliabapopgeieaaTri
import Derived.Test.YtliabapopgeieaaRh
namespace Go.Proofs.Ytliabapopgeieaa
open Go.ChangeShapes Go.WideShapes Go.ChangeAt Go.RowKit

theorem exec_append {a : Act} {o : Oper} {s x : Operand} {t : TypeId} {v xv y' : Value} {w w' : World} (ho : o.op = .call { callee := .builtin .append, args := #[s, x], argTypes := #[t, t] }) (hs : a.eval s = v) (hx : a.eval x = xv) (hr : (Builtin.append_ #[t, t] o.type #[v, xv]).run Try.prog w = .ok y' w') : (execOp a.eval o).run Try.prog w = .ok (.value y') w' := by
  unfold execOp
  simp only [ho, resolve, invoke, builtin, Sem.run_bind, Sem.run_pure, Result.andThen_ok, List.map_toArray, List.map_cons, List.map_nil, hs, hx, hr]

theorem exec_build23 {a : Act} {o : Oper} {w : World} (ho : o.op = .buildSlice 23 1 #[(0, .const (.int .i64 0))]) : (execOp a.eval o).run Try.prog w = .ok (.value (.slice (some ⟨w.heap.size, 0, none⟩) 1 1)) (w.alloc (.cells #[.int .i64 0] 3)) := by
  unfold execOp
  simp only [ho]
  go_simp
theorem exec_build39 {a : Act} {o : Oper} {w : World} (ho : o.op = .buildSlice 39 1 #[(0, .const (.bool false))]) : (execOp a.eval o).run Try.prog w = .ok (.value (.slice (some ⟨w.heap.size, 0, none⟩) 1 1)) (w.alloc (.cells #[.bool false] 4)) := by
  unfold execOp
  simp only [ho]
  go_simp
theorem exec_build40 {a : Act} {o : Oper} {w : World} (ho : o.op = .buildSlice 40 1 #[(0, .const (.int .i64 0))]) : (execOp a.eval o).run Try.prog w = .ok (.value (.slice (some ⟨w.heap.size, 0, none⟩) 1 1)) (w.alloc (.cells #[.int .i64 0] 2)) := by
  unfold execOp
  simp only [ho]
  go_simp

theorem seq_tail {P : Program} {ops : Array Oper} {Q : Exit → Act → World → Prop} {listed : Array Bool} {a : Act} {w : World} (hlen : (List.drop 21 ops.toList).length = 9) (hB : Region.seqB .any ops 9 21 listed = true) (h : wpList P ops Q (List.drop 21 ops.toList) a w) : wpAny P .any ops Q 9 listed a w := by
  have := wpAny_of_seq (md := .any) (ops := ops) (P := P) (Q' := Q) (List.drop 21 ops.toList) 21 listed a w (fun j => by simp [List.getElem?_drop]) (by rw [hlen]; exact hB) h
  rwa [hlen] at this
theorem Ch.done {c : Ch} {X w : World} {b : Bool} {x y : Value} (h : c.at' X w b true x y) : ∃ g cap, y = .slice (some ⟨g, 0, none⟩) (c.n + 1) cap ∧ w.ownsRow 0 c.e 1 y (c.n + 1) (c.xs ++ [c.u]) ∧ (c.v.ownBlock = some g ∨ X.heap.size ≤ g) := by
  unfold Ch.at' at h
  rw [if_pos rfl] at h
  exact h

/-- a count of lives turned -/
theorem RawR.lived {w : World} {pa : Nat} {iv vv bv : Value} {s : St Int} {g cap n : Nat} (h : RawR w pa (.slice (some ⟨g, 0, none⟩) n cap) iv vv bv s) {i : Nat} {x : Int × Nat × Bool} (m : Nat) (hx : s.pl[i]? = some x) :
    RawR (w.setCell ⟨g, i, none⟩ (.int .i64 m)) pa (.slice (some ⟨g, 0, none⟩) n cap) iv vv bv ⟨s.most, s.pl.set i (x.1, m, x.2.2), s.back⟩ := by
  have hn : n = s.pl.length := by
    rcases h.gens.2 with ⟨e, _⟩ | ⟨g', cap', cur, e, _⟩
    · cases e
    · cases e; rfl
  subst hn
  have hne : (Value.slice (some ⟨g, 0, none⟩) s.pl.length cap).ownBlock ≠ some pa := own_ne_block h.gens h.blk (by decide)
  have hgp : pa ≠ g := fun e => hne (by rw [e]; rfl)
  have o1 : iv.ownBlock ≠ some g := by
    rcases own_ne h.ins h.gens (by decide) with q | q
    · rw [q]; simp
    · exact q
  have o2 : vv.ownBlock ≠ some g := by
    rcases own_ne h.vals h.gens (by decide) with q | q
    · rw [q]; simp
    · exact q
  have hs := (h.gens.stored i (.int .i64 m)).1
  have hrow := row_set gen1_len s.pl i 0 x (x.1, m, x.2.2) (.int .i64 m) hx (by decide) rfl
  simp only [Nat.mul_one, Nat.add_zero] at hrow
  rw [hrow] at hs
  have hg : row in1 (s.pl.set i (x.1, m, x.2.2)) = row in1 s.pl := row_like _ _ _ _ hx rfl
  have hi : row val1 (s.pl.set i (x.1, m, x.2.2)) = row val1 s.pl := row_like _ _ _ _ hx rfl
  exact ⟨blk_other h.blk hgp, by simpa using hs, by simpa [hg] using ownsRow_setCell_other (a := ⟨g, i, none⟩) h.ins o1 (.int .i64 m), by simpa [hi] using ownsRow_setCell_other (a := ⟨g, i, none⟩) h.vals o2 (.int .i64 m), ownsRow_setCell_other h.back (h.apart g rfl) _, h.apart⟩

/-- one place more, stored back -/
theorem RawR.three {X w' : World} {pa most : Nat} {gv iv vv bv : Value} {pl : List (Int × Nat × Bool)} {back : List Nat} {g1 g2 g3 p1 p2 p3 : Nat} (h : RawR X pa gv iv vv bv ⟨most, pl, back⟩)
    (kp : Kept (fun k => gv.ownBlock = some k ∨ iv.ownBlock = some k ∨ vv.ownBlock = some k) X w')
    (w1 : w'.ownsRow 0 3 1 (.slice (some ⟨g1, 0, none⟩) (pl.length + 1) p1) (pl.length + 1) (row gen1 pl ++ [.int .i64 0])) (w2 : w'.ownsRow 0 4 1 (.slice (some ⟨g2, 0, none⟩) (pl.length + 1) p2) (pl.length + 1) (row in1 pl ++ [.bool false])) (w3 : w'.ownsRow 0 2 1 (.slice (some ⟨g3, 0, none⟩) (pl.length + 1) p3) (pl.length + 1) (row val1 pl ++ [.int .i64 0]))
    (a1 : gv.ownBlock = some g1 ∨ X.heap.size ≤ g1) :
    RawR (((w'.setCell ⟨pa, 1, none⟩ (.slice (some ⟨g1, 0, none⟩) (pl.length + 1) p1)).setCell ⟨pa, 2, none⟩ (.slice (some ⟨g2, 0, none⟩) (pl.length + 1) p2)).setCell ⟨pa, 3, none⟩ (.slice (some ⟨g3, 0, none⟩) (pl.length + 1) p3)) pa (.slice (some ⟨g1, 0, none⟩) (pl.length + 1) p1) (.slice (some ⟨g2, 0, none⟩) (pl.length + 1) p2) (.slice (some ⟨g3, 0, none⟩) (pl.length + 1) p3) bv ⟨most, pl ++ [(0, 0, false)], back⟩ := by
  have hp : ¬ (gv.ownBlock = some pa ∨ iv.ownBlock = some pa ∨ vv.ownBlock = some pa) := fun q => by
    rcases q with q | q | q
    · exact own_ne_block h.gens h.blk (by decide) q
    · exact own_ne_block h.ins h.blk (by decide) q
    · exact own_ne_block h.vals h.blk (by decide) q
  have hblk := (kp.block pa (lt_of_block h.blk) hp).trans h.blk
  have n1 := own_ne_block w1 hblk (by decide)
  have n2 := own_ne_block w2 hblk (by decide)
  have n3 := own_ne_block w3 hblk (by decide)
  have nb : bv.ownBlock ≠ some pa := own_ne_block h.back h.blk (by decide)
  have hb : w'.ownsRow 0 3 1 bv back.length (row nat1 back) := own_kept h.back kp fun k hk q => by
    rcases q with q | q | q
    · exact h.apart k q hk
    · rcases own_ne h.back h.ins (by decide) with z | z
      · rw [z] at hk; cases hk
      · exact z (hk.trans q.symm)
    · rcases own_ne h.back h.vals (by decide) with z | z
      · rw [z] at hk; cases hk
      · exact z (hk.trans q.symm)
  have s1 := fun u v w => ownsRow_setCell_other (a := ⟨pa, 3, none⟩) (ownsRow_setCell_other (a := ⟨pa, 2, none⟩) (ownsRow_setCell_other (a := ⟨pa, 1, none⟩) w1 n1 u) n1 v) n1 w
  have s2 := fun u v w => ownsRow_setCell_other (a := ⟨pa, 3, none⟩) (ownsRow_setCell_other (a := ⟨pa, 2, none⟩) (ownsRow_setCell_other (a := ⟨pa, 1, none⟩) w2 n2 u) n2 v) n2 w
  have s3 := fun u v w => ownsRow_setCell_other (a := ⟨pa, 3, none⟩) (ownsRow_setCell_other (a := ⟨pa, 2, none⟩) (ownsRow_setCell_other (a := ⟨pa, 1, none⟩) w3 n3 u) n3 v) n3 w
  have s4 := fun u v w => ownsRow_setCell_other (a := ⟨pa, 3, none⟩) (ownsRow_setCell_other (a := ⟨pa, 2, none⟩) (ownsRow_setCell_other (a := ⟨pa, 1, none⟩) hb nb u) nb v) nb w
  have sb := blk_set (j := 3) (u := .slice (some ⟨g3, 0, none⟩) (pl.length + 1) p3) (blk_set (j := 2) (u := .slice (some ⟨g2, 0, none⟩) (pl.length + 1) p2) (blk_set (j := 1) (u := .slice (some ⟨g1, 0, none⟩) (pl.length + 1) p1) hblk))
  refine ⟨by simpa using sb, ?_, ?_, ?_, s4 _ _ _, fun k hk e => ?_⟩
  · rw [row_append, List.length_append]; simpa [row, gen1] using s1 _ _ _
  · rw [row_append, List.length_append]; simpa [row, in1] using s2 _ _ _
  · rw [row_append, List.length_append]; simpa [row, val1] using s3 _ _ _
  · cases hk
    rcases a1 with q | q
    · exact h.apart g1 q e
    · have := (h.back.lt g1 e).2
      omega

/-- the last one given back is taken off -/
theorem RawR.popped {w : World} {pa most g cap b : Nat} {gv iv vv : Value} {pl : List (Int × Nat × Bool)} {bk : List Nat} (h : RawR w pa gv iv vv (.slice (some ⟨g, 0, none⟩) (bk.length + 1) cap) ⟨most, pl, bk ++ [b]⟩) :
    RawR (w.setCell ⟨pa, 4, none⟩ (.slice (some ⟨g, 0, none⟩) bk.length cap)) pa gv iv vv (.slice (some ⟨g, 0, none⟩) bk.length cap) ⟨most, pl, bk⟩ := by
  have n1 : gv.ownBlock ≠ some pa := own_ne_block h.gens h.blk (by decide)
  have n2 : iv.ownBlock ≠ some pa := own_ne_block h.ins h.blk (by decide)
  have n3 : vv.ownBlock ≠ some pa := own_ne_block h.vals h.blk (by decide)
  have n4 := own_ne_block h.back h.blk (by decide)
  have hb := h.back
  simp only [row_append, List.length_append, List.length_cons, List.length_nil] at hb
  have hpop := ownsRow_pop (row_length nat1_len bk) hb
  have sb := blk_set (j := 4) (u := .slice (some ⟨g, 0, none⟩) bk.length cap) h.blk
  exact ⟨by simpa using sb, ownsRow_setCell_other h.gens n1 _, ownsRow_setCell_other h.ins n2 _, ownsRow_setCell_other h.vals n3 _, ownsRow_setCell_other hpop (by simpa [Value.ownBlock] using n4) _, fun k hk e => h.apart k hk e⟩

/-- what the loads read -/
def S8 (pa : Nat) (gv iv vv : Value) (w' : World) : Prop := w'.cell? ⟨pa, 1, none⟩ = some gv ∧ w'.cell? ⟨pa, 2, none⟩ = some iv ∧ w'.cell? ⟨pa, 3, none⟩ = some vv

theorem infoB : (Try.prog.info? 4).map (fun i => (i.zero, i.size, i.bytes)) = some (some (.bool false), 1, 1) := by kernel_rfl
theorem infoV : (Try.prog.info? 2).map (fun i => (i.zero, i.size, i.bytes)) = some (some (.int .i64 0), 1, 8) := by kernel_rfl

theorem till_cast {P : Program} {ops : Array Oper} {Q : Exit → Act → World → Prop} {S : World → Prop} {t f : Nat} {l l' : Array Bool} {a : Act} {w : World} (h : l = l') (H : ∀ a' ops', a' = a → ops' = ops → wpTill P .any ops' Q S t f l' a' w) : wpTill P .any ops Q S t f l a w := by
  subst h; exact H a ops rfl rfl

theorem put_same (a : Act) (d : Tmp) (x z : Value) : (a.put (some d) x).put (some d) z = a.put (some d) z := by simp [Act.put]
theorem put_swap (a : Act) {d d' : Tmp} (h : d ≠ d') (x z : Value) : (a.put (some d) x).put (some d') z = (a.put (some d') z).put (some d) x := by simp [Act.put, Array.setIfInBounds_comm _ _ h]
theorem eval_other (a : Act) {d d' : Tmp} (h : d ≠ d') (x : Value) : (a.put (some d) x).eval (.tmp d') = a.eval (.tmp d') := by
  simp [Act.put, Act.eval, h]
theorem eval_self (a : Act) {d : Tmp} (h : d < a.tmps.size) (x : Value) : (a.put (some d) x).eval (.tmp d) = x := by
  simp [Act.put, Act.eval, h]
theorem put_size (a : Act) (d : Tmp) (x : Value) : (a.put (some d) x).tmps.size = a.tmps.size := by simp [Act.put]
/-- the frame with six slots laid -/
def A6 (a0 : Act) (x1 x2 x3 y1 y2 y3 : Value) : Act := (((((a0.put (some 52) x1).put (some 58) x2).put (some 64) x3).put (some 53) y1).put (some 59) y2).put (some 65) y3
section
variable {a0 : Act} {x1 x2 x3 y1 y2 y3 z : Value}
theorem A6_52 : (A6 a0 x1 x2 x3 y1 y2 y3).put (some 52) z = A6 a0 z x2 x3 y1 y2 y3 := by
  unfold A6
  rw [put_swap _ (d := 65) (d' := 52) (by decide), put_swap _ (d := 59) (d' := 52) (by decide), put_swap _ (d := 53) (d' := 52) (by decide), put_swap _ (d := 64) (d' := 52) (by decide), put_swap _ (d := 58) (d' := 52) (by decide), put_same]
theorem A6_58 : (A6 a0 x1 x2 x3 y1 y2 y3).put (some 58) z = A6 a0 x1 z x3 y1 y2 y3 := by
  unfold A6
  rw [put_swap _ (d := 65) (d' := 58) (by decide), put_swap _ (d := 59) (d' := 58) (by decide), put_swap _ (d := 53) (d' := 58) (by decide), put_swap _ (d := 64) (d' := 58) (by decide), put_same]
theorem A6_64 : (A6 a0 x1 x2 x3 y1 y2 y3).put (some 64) z = A6 a0 x1 x2 z y1 y2 y3 := by
  unfold A6
  rw [put_swap _ (d := 65) (d' := 64) (by decide), put_swap _ (d := 59) (d' := 64) (by decide), put_swap _ (d := 53) (d' := 64) (by decide), put_same]
theorem A6_53 : (A6 a0 x1 x2 x3 y1 y2 y3).put (some 53) z = A6 a0 x1 x2 x3 z y2 y3 := by
  unfold A6
  rw [put_swap _ (d := 65) (d' := 53) (by decide), put_swap _ (d := 59) (d' := 53) (by decide), put_same]
theorem A6_59 : (A6 a0 x1 x2 x3 y1 y2 y3).put (some 59) z = A6 a0 x1 x2 x3 y1 z y3 := by
  unfold A6
  rw [put_swap _ (d := 65) (d' := 59) (by decide), put_same]
theorem A6_65 : (A6 a0 x1 x2 x3 y1 y2 y3).put (some 65) z = A6 a0 x1 x2 x3 y1 y2 z := by
  unfold A6
  rw [put_same]
theorem A6_old {d : Tmp} (h1 : 52 ≠ d) (h2 : 58 ≠ d) (h3 : 64 ≠ d) (h4 : 53 ≠ d) (h5 : 59 ≠ d) (h6 : 65 ≠ d) : (A6 a0 x1 x2 x3 y1 y2 y3).eval (.tmp d) = a0.eval (.tmp d) := by
  unfold A6
  rw [eval_other _ h6, eval_other _ h5, eval_other _ h4, eval_other _ h3, eval_other _ h2, eval_other _ h1]
theorem A6_e52 (h : 52 < a0.tmps.size) : (A6 a0 x1 x2 x3 y1 y2 y3).eval (.tmp 52) = x1 := by
  unfold A6
  rw [eval_other _ (d := 65) (by decide), eval_other _ (d := 59) (by decide), eval_other _ (d := 53) (by decide), eval_other _ (d := 64) (by decide), eval_other _ (d := 58) (by decide), eval_self _ h]
theorem A6_e58 (h : 58 < a0.tmps.size) : (A6 a0 x1 x2 x3 y1 y2 y3).eval (.tmp 58) = x2 := by
  unfold A6
  rw [eval_other _ (d := 65) (by decide), eval_other _ (d := 59) (by decide), eval_other _ (d := 53) (by decide), eval_other _ (d := 64) (by decide), eval_self _ (by rw [put_size]; exact h)]
theorem A6_e64 (h : 64 < a0.tmps.size) : (A6 a0 x1 x2 x3 y1 y2 y3).eval (.tmp 64) = x3 := by
  unfold A6
  rw [eval_other _ (d := 65) (by decide), eval_other _ (d := 59) (by decide), eval_other _ (d := 53) (by decide), eval_self _ (by rw [put_size, put_size]; exact h)]
end

set_option maxRecDepth 4000 in
set_option maxHeartbeats 4000000 in
theorem takeR (pa : Nat) (s : St Int) (F : Nat → Prop) (v : Int) (w : World) (h : IsR w F pa s) (hm : s.pl.length ≤ 100000) (hmm : s.pl.length ≤ s.most) (hb : s.back.length ≤ 100000) (hbk : ∀ b ∈ s.back, b < s.pl.length) (hl : ∀ x ∈ s.pl, x.2.1 ≤ 100000) :
    Calls Try.prog 29 #[.pointer (some ⟨pa, 0, none⟩), .int .i64 v] w fun e w' => e = .returned (.tuple #[.agg #[.int .i64 (tookS 0 s).1, .int .i64 (tookS 0 s).2], .bool (nextS 0 s).2.2]) ∧ IsR w' (Grow F w w') pa (takeS 0 v s) ∧ Kept F w w' := by
  have IS := hid h
  obtain ⟨gv, iv, vv, bv, hr, f1, f2, f3, f4, f5, f6⟩ := h
  have hr0 := hr.plain (knew w (.cells #[.int .i64 0, .int .i64 0] 25))
  obtain ⟨hpa, h0, h1, h2, h3, h4⟩ := hr0.cells
  obtain ⟨most, pl, back⟩ := s
  obtain ⟨ga, gc, rfl⟩ := own_form hr.gens
  obtain ⟨ba, bc, rfl⟩ := own_form hr.back
  have HR := hid hr
  have HR0 := hid hr0
  have F1 := hid f1
  have F2 := hid f2
  have F3 := hid f3
  have F4 := hid f4
  have F5 := hid f5
  have F6 := hid f6
  clear hr hr0 f1 f2 f3 f4 f5 f6
  simp only [] at h0 h1 h2 h3 h4 hm hmm hb hbk hl
  rcases snoc_or back with rfl | ⟨bk, at1, rfl⟩
  · by_cases c : pl.length = most
    · have hge : (most : Int) ≤ (pl.length : Int) := by omega
      have HQ := hid (nextS_full (z := (0 : Int)) c)
      have hrF : ¬ F w.heap.size := fun e => by have := F6.out _ e; omega
      clear h2 h3 c
      go_enter Try.func29, Try.ntmps29
      go_wp2
      refine bodyPost_ret (v := .tuple #[.agg #[.int .i64 0, .int .i64 0], .bool false]) (by rw [results_cell_tmp rfl]; go_simp) rfl ?_
      have e1 : tookS (0 : Int) ⟨most, pl, []⟩ = (0, 0) := by unfold tookS; rw [HQ.out]; rfl
      have e2 : takeS (0 : Int) v ⟨most, pl, []⟩ = ⟨most, pl, []⟩ := by unfold takeS; rw [HQ.out]; rfl
      rw [e1, e2, HQ.out]
      have hk : Kept (fun _ => False) w (w.alloc (.cells #[.int .i64 0, .int .i64 0] 25)) := (Kept.refl _ _).alloc _
      exact ⟨rfl, IS.out.grow hk (fun _ _ e => e), hk.mono fun _ e => e.elim⟩
    · have hlt : pl.length < most := by omega
      have hlt1 : decide ((most : Int) ≤ (pl.length : Int)) = false := by simp; omega
      go_enter Try.func29, Try.ntmps29
      go_wp2
      clear h4 h0 hlt1
      refine wp_region_any (by kernel_rfl) ?_
      change wpAny _ _ _ _ 30 _ _ _
      refine wpAny_take (i := 0) (v := .pointer (some ⟨pa, 0, none⟩)) rfl (by kernel_rfl) (by kernel_rfl) (by kernel_rfl) (fun _ _ _ h => h) (Or.inl ⟨rfl, fun w => by go_simp⟩) ?_
      refine wpAny_take (i := 1) (v := .pointer (some ⟨pa, 0, none⟩)) rfl (by kernel_rfl) (by kernel_rfl) (by kernel_rfl) (fun _ _ _ h => h) (Or.inl ⟨rfl, fun w => by go_simp⟩) ?_
      refine wpAny_take (i := 2) (v := .pointer (some ⟨pa, 0, none⟩)) rfl (by kernel_rfl) (by kernel_rfl) (by kernel_rfl) (fun _ _ _ h => h) (Or.inl ⟨rfl, fun w => by go_simp⟩) ?_
      refine wpAny_take (i := 3) (v := .pointer (some ⟨pa, 0, none⟩)) rfl (by kernel_rfl) (by kernel_rfl) (by kernel_rfl) (fun _ _ _ h => h) (Or.inl ⟨rfl, fun w => by go_simp⟩) ?_
      refine wpAny_take (i := 4) (v := .pointer (some ⟨pa, 0, none⟩)) rfl (by kernel_rfl) (by kernel_rfl) (by kernel_rfl) (fun _ _ _ h => h) (Or.inl ⟨rfl, fun w => by go_simp⟩) ?_
      refine wpAny_take (i := 5) (v := .pointer (some ⟨pa, 1, none⟩)) rfl (by kernel_rfl) (by kernel_rfl) (by kernel_rfl) (fun _ _ _ h => h) (Or.inl ⟨rfl, fun w => by go_simp⟩) ?_
      refine wpAny_take (i := 9) (v := .pointer (some ⟨pa, 0, none⟩)) rfl (by kernel_rfl) (by kernel_rfl) (by kernel_rfl) (fun _ _ _ h => h) (Or.inl ⟨rfl, fun w => by go_simp⟩) ?_
      refine wpAny_take (i := 10) (v := .pointer (some ⟨pa, 0, none⟩)) rfl (by kernel_rfl) (by kernel_rfl) (by kernel_rfl) (fun _ _ _ h => h) (Or.inl ⟨rfl, fun w => by go_simp⟩) ?_
      refine wpAny_take (i := 11) (v := .pointer (some ⟨pa, 2, none⟩)) rfl (by kernel_rfl) (by kernel_rfl) (by kernel_rfl) (fun _ _ _ h => h) (Or.inl ⟨rfl, fun w => by go_simp⟩) ?_
      refine wpAny_take (i := 15) (v := .pointer (some ⟨pa, 0, none⟩)) rfl (by kernel_rfl) (by kernel_rfl) (by kernel_rfl) (fun _ _ _ h => h) (Or.inl ⟨rfl, fun w => by go_simp⟩) ?_
      refine wpAny_take (i := 16) (v := .pointer (some ⟨pa, 0, none⟩)) rfl (by kernel_rfl) (by kernel_rfl) (by kernel_rfl) (fun _ _ _ h => h) (Or.inl ⟨rfl, fun w => by go_simp⟩) ?_
      refine wpAny_take (i := 17) (v := .pointer (some ⟨pa, 3, none⟩)) rfl (by kernel_rfl) (by kernel_rfl) (by kernel_rfl) (fun _ _ _ h => h) (Or.inl ⟨rfl, fun w => by go_simp⟩) ?_
      refine any_of_till (S := S8 pa (.slice ga pl.length gc) iv vv) (t := 21) _ _ _ _ ?_
      have hSX : S8 pa (.slice ga pl.length gc) iv vv ((w.alloc (.cells #[.int .i64 0, .int .i64 0] 25)).drew) := ⟨h1, h2, h3⟩
      refine till_take (i := 6) (v := .slice ga pl.length gc) rfl (by kernel_rfl) (by kernel_rfl) (by kernel_rfl) (fun _ _ _ h => h) (by decide) (by kernel_rfl) (by kernel_rfl) (Or.inl ⟨rfl, fun w hS => by obtain ⟨q1, q2, q3⟩ := hS; go_simp⟩) hSX ?_
      refine till_take (i := 12) (v := iv) rfl (by kernel_rfl) (by kernel_rfl) (by kernel_rfl) (fun _ _ _ h => h) (by decide) (by kernel_rfl) (by kernel_rfl) (Or.inl ⟨rfl, fun w hS => by obtain ⟨q1, q2, q3⟩ := hS; go_simp⟩) hSX ?_
      refine till_take (i := 18) (v := vv) rfl (by kernel_rfl) (by kernel_rfl) (by kernel_rfl) (fun _ _ _ h => h) (by decide) (by kernel_rfl) (by kernel_rfl) (Or.inl ⟨rfl, fun w hS => by obtain ⟨q1, q2, q3⟩ := hS; go_simp⟩) hSX ?_
      refine till_cast (l' := L8 false false false false false false) (by kernel_rfl) fun a0 ops ha0 hops => ?_
      simp [Act.put] at ha0
      obtain ⟨o7, q7, g7, d7, op7⟩ : ∃ o : Oper, ops[7]? = some o ∧ o.guard = none ∧ o.dst = some 52 ∧ o.op = .buildSlice 23 1 #[(0, .const (.int .i64 0))] := by rw [hops]; exact ⟨_, rfl, rfl, rfl, rfl⟩
      obtain ⟨o13, q13, g13, d13, op13⟩ : ∃ o : Oper, ops[13]? = some o ∧ o.guard = none ∧ o.dst = some 58 ∧ o.op = .buildSlice 39 1 #[(0, .const (.bool false))] := by rw [hops]; exact ⟨_, rfl, rfl, rfl, rfl⟩
      obtain ⟨o19, q19, g19, d19, op19⟩ : ∃ o : Oper, ops[19]? = some o ∧ o.guard = none ∧ o.dst = some 64 ∧ o.op = .buildSlice 40 1 #[(0, .const (.int .i64 0))] := by rw [hops]; exact ⟨_, rfl, rfl, rfl, rfl⟩
      obtain ⟨o8, q8, g8, d8, op8⟩ : ∃ o : Oper, ops[8]? = some o ∧ o.guard = none ∧ o.dst = some 53 ∧ o.op = .call { callee := .builtin .append, args := #[.tmp 51, .tmp 52], argTypes := #[23, 23] } := by rw [hops]; exact ⟨_, rfl, rfl, rfl, rfl⟩
      obtain ⟨o14, q14, g14, d14, op14⟩ : ∃ o : Oper, ops[14]? = some o ∧ o.guard = none ∧ o.dst = some 59 ∧ o.op = .call { callee := .builtin .append, args := #[.tmp 57, .tmp 58], argTypes := #[39, 39] } := by rw [hops]; exact ⟨_, rfl, rfl, rfl, rfl⟩
      obtain ⟨o20, q20, g20, d20, op20⟩ : ∃ o : Oper, ops[20]? = some o ∧ o.guard = none ∧ o.dst = some 65 ∧ o.op = .call { callee := .builtin .append, args := #[.tmp 63, .tmp 64], argTypes := #[40, 40] } := by rw [hops]; exact ⟨_, rfl, rfl, rfl, rfl⟩
      have e51 : a0.eval (.tmp 51) = .slice ga pl.length gc := by rw [ha0]; rfl
      have e57 : a0.eval (.tmp 57) = iv := by rw [ha0]; rfl
      have e63 : a0.eval (.tmp 63) = vv := by rw [ha0]; rfl
      have hsz1 : 52 < a0.tmps.size := by rw [ha0]; exact (by decide : 52 < 103)
      have hsz2 : 58 < a0.tmps.size := by rw [ha0]; exact (by decide : 58 < 103)
      have hsz3 : 64 < a0.tmps.size := by rw [ha0]; exact (by decide : 64 < 103)
      have hA0 : a0 = A6 a0 undef undef undef undef undef undef := by rw [ha0]; rfl
      obtain ⟨t3, p31, p32, p33, p34⟩ := info_parts info3
      obtain ⟨t4, p41, p42, p43, p44⟩ := info_parts infoB
      obtain ⟨t2, p21, p22, p23, p24⟩ := info_parts infoV
      have hrX := HR0.out.plain ((Kept.refl _ _).drew)
      refine tri_walk (X := (w.alloc (.cells #[.int .i64 0, .int .i64 0] 25)).drew) (g := 9)
        (c1 := ⟨23, 3, t3, _, 8, .int .i64 0, .slice ga pl.length gc, pl.length, row gen1 pl, Try.underlying23, p31, p32, p33, p34, rfl, rfl, by omega, by decide⟩)
        (c2 := ⟨39, 4, t4, _, 1, .bool false, iv, pl.length, row in1 pl, Try.underlying39, p41, p42, p43, p44, rfl, rfl, by omega, by decide⟩)
        (c3 := ⟨40, 2, t2, _, 8, .int .i64 0, vv, pl.length, row val1 pl, Try.underlying40, p21, p22, p23, p24, rfl, rfl, by omega, by decide⟩)
        (A := A6 a0)
        ⟨(show (3 : Nat) ≠ 4 by decide), (show (3 : Nat) ≠ 2 by decide), (show (4 : Nat) ≠ 2 by decide), hrX.gens, hrX.ins, hrX.vals,
          fun x1 x2 x3 y1 y2 y3 w => ⟨o7, q7, g7, exec_build23 op7, fun z => by rw [d7]; exact A6_52⟩,
          fun x1 x2 x3 y1 y2 y3 w => ⟨o13, q13, g13, exec_build39 op13, fun z => by rw [d13]; exact A6_58⟩,
          fun x1 x2 x3 y1 y2 y3 w => ⟨o19, q19, g19, exec_build40 op19, fun z => by rw [d19]; exact A6_64⟩,
          fun x1 x2 x3 y1 y2 y3 => ⟨o8, o8.type, q8, g8, fun w y' w' hr => exec_append op8 ((A6_old (by decide) (by decide) (by decide) (by decide) (by decide) (by decide)).trans e51) (A6_e52 hsz1) hr, fun z => by rw [d8]; exact A6_53⟩,
          fun x1 x2 x3 y1 y2 y3 => ⟨o14, o14.type, q14, g14, fun w y' w' hr => exec_append op14 ((A6_old (by decide) (by decide) (by decide) (by decide) (by decide) (by decide)).trans e57) (A6_e58 hsz2) hr, fun z => by rw [d14]; exact A6_59⟩,
          fun x1 x2 x3 y1 y2 y3 => ⟨o20, o20.type, q20, g20, fun w y' w' hr => exec_append op20 ((A6_old (by decide) (by decide) (by decide) (by decide) (by decide) (by decide)).trans e63) (A6_e64 hsz3) hr, fun z => by rw [d20]; exact A6_65⟩,
          ?rdy⟩ ?hS ?hend 6 false false false false false false (fun h => by cases h) (fun h => by cases h) (fun h => by cases h) rfl a0 _ undef undef undef undef undef undef ⟨hA0, ?k1, ?k2, ?k3, Kept.refl _ _⟩
      case rdy =>
        intro b1 b2 b3 d1 d2 d3 v1 v2 v3 hd
        cases hd
        cases b1 <;> cases b2 <;> cases b3 <;> cases d1 <;> cases d2 <;> first | (exfalso; simp at v1 v2; done) | (rw [hops]; kernel_rfl)
      case hS =>
        intro w' hk
        have hp : ¬ ((Value.slice ga pl.length gc).ownBlock = some pa ∨ iv.ownBlock = some pa ∨ vv.ownBlock = some pa) := fun q => by
          rcases q with q | q | q
          · exact own_ne_block hrX.gens hrX.blk (by decide) q
          · exact own_ne_block hrX.ins hrX.blk (by decide) q
          · exact own_ne_block hrX.vals hrX.blk (by decide) q
        exact ⟨(hk.cell (p := ⟨pa, 1, none⟩) hpa hp).trans h1, (hk.cell (p := ⟨pa, 2, none⟩) hpa hp).trans h2, (hk.cell (p := ⟨pa, 3, none⟩) hpa hp).trans h3⟩
      case k1 => exact ⟨hrX.gens, fun h => by cases h⟩
      case k2 => exact ⟨hrX.ins, fun h => by cases h⟩
      case k3 => exact ⟨hrX.vals, fun h => by cases h⟩
      case hend =>
        intro x1 x2 x3 y1 y2 y3 a w' hT
        refine till_last (f := 8) (by rw [hops]; kernel_rfl) ?_
        obtain ⟨g1, cp1, rfl, ow1, at1⟩ := Ch.done hT.k1
        obtain ⟨g2, cp2, rfl, ow2, at2⟩ := Ch.done hT.k2
        obtain ⟨g3, cp3, rfl, ow3, at3⟩ := Ch.done hT.k3
        have kp := hT.kp
        have hfr := hT.fr
        simp only [] at ow1 ow2 ow3 at1 at2 at3
        clear hT
        refine seq_tail (by rw [hops]; rfl) (by rw [hops]; kernel_rfl) ?_
        rw [hfr]
        clear q7 q8 q13 q14 q19 q20 hfr hA0 e51 e57 e63 hsz1 hsz2 hsz3
        subst hops ha0
        simp only [A6, Act.put, List.drop_succ_cons, List.drop_zero, List.setIfInBounds_toArray, List.set_cons_succ, List.set_cons_zero]
        have hp : ¬ ((Value.slice ga pl.length gc).ownBlock = some pa ∨ iv.ownBlock = some pa ∨ vv.ownBlock = some pa) := fun q => by
          rcases q with q | q | q
          · exact own_ne_block hrX.gens hrX.blk (by decide) q
          · exact own_ne_block hrX.ins hrX.blk (by decide) q
          · exact own_ne_block hrX.vals hrX.blk (by decide) q
        have k1 := (kp.cell (p := ⟨pa, 1, none⟩) hpa hp).trans h1
        have k2 := (kp.cell (p := ⟨pa, 2, none⟩) hpa hp).trans h2
        have k3 := (kp.cell (p := ⟨pa, 3, none⟩) hpa hp).trans h3
        have kb := (kp.block pa hpa hp).trans hrX.blk
        have kf1 := blk_free (j := 1) kb
        have kf2 := blk_free (j := 2) kb
        have kf3 := blk_free (j := 3) kb
        have kl := lt_of_block kb
        have HRX := hid hrX
        have KP := hid kp
        have OW := hid (And.intro ow1 (And.intro ow2 ow3))
        have AT := hid (And.intro at1 (And.intro at2 at3))
        have hnr : ¬ ((Value.slice ga pl.length gc).ownBlock = some w.heap.size ∨ iv.ownBlock = some w.heap.size ∨ vv.ownBlock = some w.heap.size) := fun q => by
          rcases q with q | q | q
          · have := F6.out _ (F2.out _ q); omega
          · have := F6.out _ (F3.out _ q); omega
          · have := F6.out _ (F4.out _ q); omega
        have hrs : w'.heap[w.heap.size]? = some (.cells #[.int .i64 0, .int .i64 0] 25) := (kp.block w.heap.size (by simp) hnr).trans (heap_alloc_new w _)
        have HRS := hid hrs
        clear hrX kp ow1 ow2 ow3 at1 at2 at3 h1 h2 h3 kb hp hnr hrs hSX
        go_upto_region 9 with fail
        obtain ⟨W, hW⟩ : ∃ W, W = ((w'.setCell ⟨pa, 1, none⟩ (.slice (some ⟨g1, 0, none⟩) (pl.length + 1) cp1)).setCell ⟨pa, 2, none⟩ (.slice (some ⟨g2, 0, none⟩) (pl.length + 1) cp2)).setCell ⟨pa, 3, none⟩ (.slice (some ⟨g3, 0, none⟩) (pl.length + 1) cp3) := ⟨_, rfl⟩
        rw [← hW]
        have hpw : w.heap.size ≠ pa := fun e => by have := F6.out _ F1.out; omega
        have RW := RawR.three HRX.out KP.out OW.out.1 OW.out.2.1 OW.out.2.2 AT.out.1
        rw [← hW] at RW
        have hsX : (w.alloc (.cells #[.int .i64 0, .int .i64 0] 25)).drew.heap.size = w.heap.size + 1 := by simp
        have hKW : Kept F w W := by
          rw [hW]
          exact ((((((Kept.refl F w).alloc _).drew).trans' (KP.out.mono (fun k q => by rcases q with q | q | q; exact F2.out k q; exact F3.out k q; exact F4.out k q))).setCell (p := ⟨pa, 1, none⟩) (Or.inl F1.out) _).setCell (p := ⟨pa, 2, none⟩) (Or.inl F1.out) _).setCell (p := ⟨pa, 3, none⟩) (Or.inl F1.out) _
        have hfoot : (∀ k, (Value.slice (some ⟨g1, 0, none⟩) (pl.length + 1) cp1).ownBlock = some k → F k ∨ w.heap.size + 1 ≤ k) ∧ (∀ k, (Value.slice (some ⟨g2, 0, none⟩) (pl.length + 1) cp2).ownBlock = some k → F k ∨ w.heap.size + 1 ≤ k) ∧ (∀ k, (Value.slice (some ⟨g3, 0, none⟩) (pl.length + 1) cp3).ownBlock = some k → F k ∨ w.heap.size + 1 ≤ k) ∧ (∀ k, (Value.slice ba ([] : List Nat).length bc).ownBlock = some k → F k ∨ w.heap.size + 1 ≤ k) := by
          refine ⟨fun k hk => ?_, fun k hk => ?_, fun k hk => ?_, fun k hk => Or.inl (F5.out k hk)⟩
          · cases hk; exact AT.out.1.imp (fun q => F2.out _ q) (fun q => by rw [← hsX]; exact q)
          · cases hk; exact AT.out.2.1.imp (fun q => F3.out _ q) (fun q => by rw [← hsX]; exact q)
          · cases hk; exact AT.out.2.2.imp (fun q => F4.out _ q) (fun q => by rw [← hsX]; exact q)
        have hres : W.heap[w.heap.size]? = some (.cells #[.int .i64 0, .int .i64 0] 25) := by
          rw [hW]
          exact blk_other (blk_other (blk_other HRS.out hpw) hpw) hpw
        clear hW k1 k2 k3 kf1 kf2 kf3 kl HRX KP OW AT HRS hsX hpw
        have HQ := hid (nextS_new (z := (0 : Int)) (m := most) (pl := pl) c)
        have hx0 : (pl ++ [((0 : Int), 0, false)])[pl.length]? = some (0, 0, false) := by simp
        obtain ⟨S1, hS1⟩ : ∃ S1 : St Int, S1 = ⟨most, pl ++ [(0, 0, false)], []⟩ := ⟨_, rfl⟩
        rw [← hS1] at RW HQ
        obtain ⟨at1, hat0⟩ : ∃ at1, at1 = pl.length := ⟨_, rfl⟩
        rw [← hat0]
        obtain ⟨x, hx1, hxl⟩ : ∃ x, S1.pl[at1]? = some x ∧ x.2.1 ≤ 100000 := ⟨(0, 0, false), by rw [hS1, hat0]; exact hx0, Nat.zero_le _⟩
        have hln1 : S1.pl.length = pl.length + 1 := by rw [hS1]; simp
        rw [← hln1] at hfoot RW
        rw [← hat0] at HQ
        have EL := hid (show livS S1 at1 = x.2.1 by unfold livS; rw [hx1])
        clear hS1 hx0 hat0 hln1 c hlt hmm
        generalize (Value.slice (some ⟨g1, 0, none⟩) S1.pl.length cp1) = gv1 at RW hfoot
        generalize (Value.slice (some ⟨g2, 0, none⟩) S1.pl.length cp2) = iv1 at RW hfoot
        generalize (Value.slice (some ⟨g3, 0, none⟩) S1.pl.length cp3) = vv1 at RW hfoot

        obtain ⟨gb, gcp, ge, hgb, hgf, kg⟩ := own1_get gen1_len RW.gens hx1
        obtain ⟨ib, icp, ie, hib, hif, ki⟩ := own1_get in1_len RW.ins hx1
        obtain ⟨vb, vcp, ve, hvb, hvf, kv⟩ := own1_get val1_len RW.vals hx1
        subst ge
        subst ie
        subst ve
        replace kg : W.cell? ⟨gb, at1, none⟩ = some (.int .i64 x.2.1) := kg
        replace ki : W.cell? ⟨ib, at1, none⟩ = some (.bool x.2.2) := ki
        replace kv : W.cell? ⟨vb, at1, none⟩ = some (.int .i64 x.1) := kv
        obtain ⟨hpW, -, z1, z2, z3, -⟩ := RW.cells
        have n1 : gb ≠ pa := fun e => own_ne_block RW.gens RW.blk (by decide) (by rw [e]; rfl)
        have n2 : ib ≠ pa := fun e => own_ne_block RW.ins RW.blk (by decide) (by rw [e]; rfl)
        have n3 : vb ≠ pa := fun e => own_ne_block RW.vals RW.blk (by decide) (by rw [e]; rfl)
        have n4 : gb ≠ ib := fun e => by rcases own_ne RW.gens RW.ins (by decide) with q | q; cases q; exact q (by rw [e]; rfl)
        have n5 : gb ≠ vb := fun e => by rcases own_ne RW.gens RW.vals (by decide) with q | q; cases q; exact q (by rw [e]; rfl)
        have n6 : ib ≠ vb := fun e => by rcases own_ne RW.ins RW.vals (by decide) with q | q; cases q; exact q (by rw [e]; rfl)
        have hrG := hfoot
        have m1 : gb ≠ w.heap.size := fun e => hrG.1 gb rfl |>.elim (fun q => by have := F6.out _ q; omega) (fun q => by omega)
        have m2 : ib ≠ w.heap.size := fun e => hrG.2.1 ib rfl |>.elim (fun q => by have := F6.out _ q; omega) (fun q => by omega)
        have m3 : vb ≠ w.heap.size := fun e => hrG.2.2.1 vb rfl |>.elim (fun q => by have := F6.out _ q; omega) (fun q => by omega)
        have m4 : pa ≠ w.heap.size := fun e => by have := F6.out _ F1.out; omega
        have r0 := blk_cell (j := 0) hres rfl
        have r1 := blk_cell (j := 1) hres rfl
        have rf0 := blk_free (j := 0) hres
        have rf1 := blk_free (j := 1) hres
        have rlt := lt_of_block hres
        have hat1 : at1 < S1.pl.length := (List.getElem?_eq_some_iff.1 hx1).1
        have hat2 : (at1 : Int) < (S1.pl.length : Int) := by omega
        have RF := hid ((((RW.lived (i := at1) (x.2.1 + 1) hx1).marked (i := at1) (x := (x.1, x.2.1 + 1, x.2.2)) true (by simp [hat1])).stored (i := at1) (x := (x.1, x.2.1 + 1, true)) v (by simp [hat1])))
        have FT := hid hfoot
        have KW := hid hKW
        clear RW hfoot hrG hres hKW hx1
        have hc1 : ((x.2.1 + 1 : Nat) : Int) = (x.2.1 : Int) + 1 := by omega
        rw [hc1] at RF
        clear hc1
        go_wp2_with fail
        go_region
        all_goals
          go_wp2
          refine bodyPost_ret (v := .tuple #[.agg #[.int .i64 at1, .int .i64 ((x.2.1 : Int) + 1)], .bool true]) (by rw [results_cell_tmp rfl]; go_simp) rfl ?_
          have e1 : tookS (0 : Int) ⟨most, pl, []⟩ = (at1, x.2.1 + 1) := by unfold tookS; rw [HQ.out]; simp [EL.out]
          have e2 : takeS (0 : Int) v ⟨most, pl, []⟩ = ⟨S1.most, S1.pl.set at1 (v, x.2.1 + 1, true), S1.back⟩ := by unfold takeS; rw [HQ.out]; simp [EL.out]
          rw [e1, e2, HQ.out]
          have RG := RF.out
          simp only [List.set_set] at RG
          have hsz : ∀ k, k < (((W.setCell ⟨gb, at1, none⟩ (.int .i64 ((x.2.1 : Int) + 1))).setCell ⟨ib, at1, none⟩ (.bool true)).setCell ⟨vb, at1, none⟩ (.int .i64 v)).heap.size → k < W.heap.size := fun k q => by simpa [World.setCell] using q
          have I1 : IsR _ (fun k => F k ∨ (w.heap.size + 1 ≤ k ∧ k < W.heap.size)) pa ⟨S1.most, S1.pl.set at1 (v, x.2.1 + 1, true), S1.back⟩ := ⟨_, _, _, _, RG, Or.inl F1.out, fun k hk => (FT.out.1 k hk).imp id fun q => ⟨q, hsz k (RG.gens.lt k hk).2⟩, fun k hk => (FT.out.2.1 k hk).imp id fun q => ⟨q, hsz k (RG.ins.lt k hk).2⟩, fun k hk => (FT.out.2.2.1 k hk).imp id fun q => ⟨q, hsz k (RG.vals.lt k hk).2⟩, fun k hk => (FT.out.2.2.2 k hk).imp id fun q => ⟨q, hsz k (RG.back.lt k hk).2⟩, fun k e => by
            have q2 : k < W.heap.size := e.elim (fun q => Nat.lt_of_lt_of_le (F6.out k q) KW.out.size) (fun q => q.2)
            simpa [World.setCell] using q2⟩
          have hnr : ¬ (F w.heap.size ∨ (w.heap.size + 1 ≤ w.heap.size ∧ w.heap.size < W.heap.size)) := fun e => e.elim (fun q => by have := F6.out _ q; omega) (fun q => by omega)
          have I2 := (I1.far (p := ⟨w.heap.size, 0, none⟩) hnr (.int .i64 at1)).far (p := ⟨w.heap.size, 1, none⟩) hnr (.int .i64 ((x.2.1 : Int) + 1))
          have I3 := I2.kept (G := fun _ => False) ((Kept.refl _ _).drew) (fun _ _ e => e)
          have hf : ∀ {k}, (F k ∨ w.heap.size + 1 ≤ k) → (F k ∨ w.heap.size ≤ k) := fun q => q.imp id fun q => by omega
          have hK := (((((KW.out.setCell (p := ⟨gb, at1, none⟩) (hf (FT.out.1 gb rfl)) (.int .i64 ((x.2.1 : Int) + 1))).setCell (p := ⟨ib, at1, none⟩) (hf (FT.out.2.1 ib rfl)) (.bool true)).setCell (p := ⟨vb, at1, none⟩) (hf (FT.out.2.2.1 vb rfl)) (.int .i64 v)).setCell (p := ⟨w.heap.size, 0, none⟩) (Or.inr (Nat.le_refl _)) (.int .i64 at1)).setCell (p := ⟨w.heap.size, 1, none⟩) (Or.inr (Nat.le_refl _)) (.int .i64 ((x.2.1 : Int) + 1))).drew
          exact ⟨rfl, I3.widen (fun k e => e.imp id fun q => ⟨by omega, by have := q.2; simpa [World.setCell] using this⟩) (Grow.lt F6.out hK.size), hK⟩
  · obtain ⟨bg, bcp, be, -, hbg⟩ := HR0.out.back.form (by simp)
    cases be
    have hcell := HR0.out.back.cellAt bk.length (by simp)
    simp only [row_append] at hcell
    rw [List.getElem?_append_right (by rw [row_length nat1_len]; omega), row_length nat1_len] at hcell
    simp [row, nat1] at hcell
    have hcap : bk.length < bc := by
      obtain ⟨_, ⟨h', _⟩ | ⟨g', cap', cur, h', _, _, hn, _⟩⟩ := HR0.out.back
      · cases h'
      · cases h'; simp at hn; omega
    have hb1 : at1 < pl.length := hbk at1 (by simp)
    have hblk0 := HR0.out.blk
    have hf4 : (w.alloc (.cells #[.int .i64 0, .int .i64 0] 25)).frozen? ⟨pa, 4, none⟩ = false := blk_free hblk0
    have hgp : bg ≠ pa := fun e => own_ne_block HR0.out.back HR0.out.blk (by decide) (by rw [e]; rfl)
    simp only [List.length_append, List.length_cons, List.length_nil] at h4 hb
    clear h0 h2 h3 hbk hblk0
    go_enter Try.func29, Try.ntmps29
    go_upto_region 9 with fail
    obtain ⟨W, hW⟩ : ∃ W, W = (w.alloc (.cells #[.int .i64 0, .int .i64 0] 25)).setCell ⟨pa, 4, none⟩ (.slice (some ⟨bg, 0, none⟩) bk.length bc) := ⟨_, rfl⟩
    rw [← hW]
    have R0 := HR0.out
    simp only [List.length_append, List.length_cons, List.length_nil, Nat.zero_add] at R0
    have RW := R0.popped
    rw [← hW] at RW
    have hpw : w.heap.size ≠ pa := fun e => by have := F6.out _ F1.out; omega
    have hKW : Kept F w W := by
      rw [hW]
      exact ((Kept.refl F w).alloc _).setCell (p := ⟨pa, 4, none⟩) (Or.inl F1.out) _
    have hfoot : (∀ k, (Value.slice ga pl.length gc).ownBlock = some k → F k ∨ w.heap.size + 1 ≤ k) ∧ (∀ k, iv.ownBlock = some k → F k ∨ w.heap.size + 1 ≤ k) ∧ (∀ k, vv.ownBlock = some k → F k ∨ w.heap.size + 1 ≤ k) ∧ (∀ k, (Value.slice (some ⟨bg, 0, none⟩) bk.length bc).ownBlock = some k → F k ∨ w.heap.size + 1 ≤ k) :=
      ⟨fun k hk => Or.inl (F2.out k hk), fun k hk => Or.inl (F3.out k hk), fun k hk => Or.inl (F4.out k hk), fun k hk => Or.inl (F5.out k (by rw [← hk]; rfl))⟩
    have hres : W.heap[w.heap.size]? = some (.cells #[.int .i64 0, .int .i64 0] 25) := by
      rw [hW]
      exact blk_other (heap_alloc_new w _) hpw
    have HQ := hid (nextS_back (z := (0 : Int)) (m := most) (pl := pl) (bk := bk) (a := at1))
    obtain ⟨S1, hS1⟩ : ∃ S1 : St Int, S1 = ⟨most, pl, bk⟩ := ⟨_, rfl⟩
    rw [← hS1] at RW HQ
    obtain ⟨x, hx1, hxl⟩ : ∃ x, S1.pl[at1]? = some x ∧ x.2.1 ≤ 100000 := ⟨pl[at1], by rw [hS1]; exact List.getElem?_eq_getElem hb1, hl _ (List.getElem_mem hb1)⟩
    have EL := hid (show livS S1 at1 = x.2.1 by unfold livS; rw [hx1])
    generalize (Value.slice ga pl.length gc) = gv1 at RW hfoot
    clear hS1 hW R0 hcell hcap hb1 hf4 hgp h1 h4 hpw hb hm hl hmm

    obtain ⟨gb, gcp, ge, hgb, hgf, kg⟩ := own1_get gen1_len RW.gens hx1
    obtain ⟨ib, icp, ie, hib, hif, ki⟩ := own1_get in1_len RW.ins hx1
    obtain ⟨vb, vcp, ve, hvb, hvf, kv⟩ := own1_get val1_len RW.vals hx1
    subst ge
    subst ie
    subst ve
    replace kg : W.cell? ⟨gb, at1, none⟩ = some (.int .i64 x.2.1) := kg
    replace ki : W.cell? ⟨ib, at1, none⟩ = some (.bool x.2.2) := ki
    replace kv : W.cell? ⟨vb, at1, none⟩ = some (.int .i64 x.1) := kv
    obtain ⟨hpW, -, z1, z2, z3, -⟩ := RW.cells
    have n1 : gb ≠ pa := fun e => own_ne_block RW.gens RW.blk (by decide) (by rw [e]; rfl)
    have n2 : ib ≠ pa := fun e => own_ne_block RW.ins RW.blk (by decide) (by rw [e]; rfl)
    have n3 : vb ≠ pa := fun e => own_ne_block RW.vals RW.blk (by decide) (by rw [e]; rfl)
    have n4 : gb ≠ ib := fun e => by rcases own_ne RW.gens RW.ins (by decide) with q | q; cases q; exact q (by rw [e]; rfl)
    have n5 : gb ≠ vb := fun e => by rcases own_ne RW.gens RW.vals (by decide) with q | q; cases q; exact q (by rw [e]; rfl)
    have n6 : ib ≠ vb := fun e => by rcases own_ne RW.ins RW.vals (by decide) with q | q; cases q; exact q (by rw [e]; rfl)
    have hrG := hfoot
    have m1 : gb ≠ w.heap.size := fun e => hrG.1 gb rfl |>.elim (fun q => by have := F6.out _ q; omega) (fun q => by omega)
    have m2 : ib ≠ w.heap.size := fun e => hrG.2.1 ib rfl |>.elim (fun q => by have := F6.out _ q; omega) (fun q => by omega)
    have m3 : vb ≠ w.heap.size := fun e => hrG.2.2.1 vb rfl |>.elim (fun q => by have := F6.out _ q; omega) (fun q => by omega)
    have m4 : pa ≠ w.heap.size := fun e => by have := F6.out _ F1.out; omega
    have r0 := blk_cell (j := 0) hres rfl
    have r1 := blk_cell (j := 1) hres rfl
    have rf0 := blk_free (j := 0) hres
    have rf1 := blk_free (j := 1) hres
    have rlt := lt_of_block hres
    have hat1 : at1 < S1.pl.length := (List.getElem?_eq_some_iff.1 hx1).1
    have hat2 : (at1 : Int) < (S1.pl.length : Int) := by omega
    have RF := hid ((((RW.lived (i := at1) (x.2.1 + 1) hx1).marked (i := at1) (x := (x.1, x.2.1 + 1, x.2.2)) true (by simp [hat1])).stored (i := at1) (x := (x.1, x.2.1 + 1, true)) v (by simp [hat1])))
    have FT := hid hfoot
    have KW := hid hKW
    clear RW hfoot hrG hres hKW hx1
    have hc1 : ((x.2.1 + 1 : Nat) : Int) = (x.2.1 : Int) + 1 := by omega
    rw [hc1] at RF
    clear hc1
    go_wp2_with fail
    go_region
    all_goals
      go_wp2
      refine bodyPost_ret (v := .tuple #[.agg #[.int .i64 at1, .int .i64 ((x.2.1 : Int) + 1)], .bool true]) (by rw [results_cell_tmp rfl]; go_simp) rfl ?_
      have e1 : tookS (0 : Int) ⟨most, pl, bk ++ [at1]⟩ = (at1, x.2.1 + 1) := by unfold tookS; rw [HQ.out]; simp [EL.out]
      have e2 : takeS (0 : Int) v ⟨most, pl, bk ++ [at1]⟩ = ⟨S1.most, S1.pl.set at1 (v, x.2.1 + 1, true), S1.back⟩ := by unfold takeS; rw [HQ.out]; simp [EL.out]
      rw [e1, e2, HQ.out]
      have RG := RF.out
      simp only [List.set_set] at RG
      have hsz : ∀ k, k < (((W.setCell ⟨gb, at1, none⟩ (.int .i64 ((x.2.1 : Int) + 1))).setCell ⟨ib, at1, none⟩ (.bool true)).setCell ⟨vb, at1, none⟩ (.int .i64 v)).heap.size → k < W.heap.size := fun k q => by simpa [World.setCell] using q
      have I1 : IsR _ (fun k => F k ∨ (w.heap.size + 1 ≤ k ∧ k < W.heap.size)) pa ⟨S1.most, S1.pl.set at1 (v, x.2.1 + 1, true), S1.back⟩ := ⟨_, _, _, _, RG, Or.inl F1.out, fun k hk => (FT.out.1 k hk).imp id fun q => ⟨q, hsz k (RG.gens.lt k hk).2⟩, fun k hk => (FT.out.2.1 k hk).imp id fun q => ⟨q, hsz k (RG.ins.lt k hk).2⟩, fun k hk => (FT.out.2.2.1 k hk).imp id fun q => ⟨q, hsz k (RG.vals.lt k hk).2⟩, fun k hk => (FT.out.2.2.2 k hk).imp id fun q => ⟨q, hsz k (RG.back.lt k hk).2⟩, fun k e => by
        have q2 : k < W.heap.size := e.elim (fun q => Nat.lt_of_lt_of_le (F6.out k q) KW.out.size) (fun q => q.2)
        simpa [World.setCell] using q2⟩
      have hnr : ¬ (F w.heap.size ∨ (w.heap.size + 1 ≤ w.heap.size ∧ w.heap.size < W.heap.size)) := fun e => e.elim (fun q => by have := F6.out _ q; omega) (fun q => by omega)
      have I2 := (I1.far (p := ⟨w.heap.size, 0, none⟩) hnr (.int .i64 at1)).far (p := ⟨w.heap.size, 1, none⟩) hnr (.int .i64 ((x.2.1 : Int) + 1))
      have I3 := I2.kept (G := fun _ => False) ((Kept.refl _ _).drew) (fun _ _ e => e)
      have hf : ∀ {k}, (F k ∨ w.heap.size + 1 ≤ k) → (F k ∨ w.heap.size ≤ k) := fun q => q.imp id fun q => by omega
      have hK := (((((KW.out.setCell (p := ⟨gb, at1, none⟩) (hf (FT.out.1 gb rfl)) (.int .i64 ((x.2.1 : Int) + 1))).setCell (p := ⟨ib, at1, none⟩) (hf (FT.out.2.1 ib rfl)) (.bool true)).setCell (p := ⟨vb, at1, none⟩) (hf (FT.out.2.2.1 vb rfl)) (.int .i64 v)).setCell (p := ⟨w.heap.size, 0, none⟩) (Or.inr (Nat.le_refl _)) (.int .i64 at1)).setCell (p := ⟨w.heap.size, 1, none⟩) (Or.inr (Nat.le_refl _)) (.int .i64 ((x.2.1 : Int) + 1))).drew
      exact ⟨rfl, I3.widen (fun k e => e.imp id fun q => ⟨by omega, by have := q.2; simpa [World.setCell] using this⟩) (Grow.lt F6.out hK.size), hK⟩
end Go.Proofs.Ytliabapopgeieaa
