/- The document's arena: the walk of its Take. -/
import Derived.Test.YtokmefgdbklepaaRx
import Derived.Test.YtokmefgdbklepaaDuo
import Derived.Deep.DeepCutAuto
namespace Go.Proofs.Ytokmefgdbklepaa
open Go.ChangeShapes Go.WideShapes Go.ChangeAt Go.RowKit

theorem info41 : (Try.prog.info? 41).map (fun i => (i.zero, i.size, i.bytes)) = some (some (.slice none 0 0), 1, 24) := by kernel_rfl
theorem info4 : (Try.prog.info? 4).map (fun i => (i.zero, i.size, i.bytes)) = some (some (.bool false), 1, 1) := by kernel_rfl
theorem exec_append {a : Act} {o : Oper} {s x : Operand} {t : TypeId} {v xv y' : Value} {w w' : World} (ho : o.op = .call { callee := .builtin .append, args := #[s, x], argTypes := #[t, t] }) (hs : a.eval s = v) (hx : a.eval x = xv) (hr : (Builtin.append_ #[t, t] o.type #[v, xv]).run Try.prog w = .ok y' w') : (execOp a.eval o).run Try.prog w = .ok (.value y') w' := by
  unfold execOp
  simp only [ho, resolve, invoke, builtin, Sem.run_bind, Sem.run_pure, Result.andThen_ok, List.map_toArray, List.map_cons, List.map_nil, hs, hx, hr]

theorem exec_build49 {a : Act} {o : Oper} {w : World} (ho : o.op = .buildSlice 49 1 #[(0, .const (.slice none 0 0))]) : (execOp a.eval o).run Try.prog w = .ok (.value (.slice (some ⟨w.heap.size, 0, none⟩) 1 1)) (w.alloc (.cells #[.slice none 0 0] 41)) := by
  unfold execOp
  simp only [ho]
  go_simp
theorem exec_build50 {a : Act} {o : Oper} {w : World} (ho : o.op = .buildSlice 50 1 #[(0, .const (.bool false))]) : (execOp a.eval o).run Try.prog w = .ok (.value (.slice (some ⟨w.heap.size, 0, none⟩) 1 1)) (w.alloc (.cells #[.bool false] 4)) := by
  unfold execOp
  simp only [ho]
  go_simp

theorem seq_tail {P : Program} {ops : Array Oper} {Q : Exit → Act → World → Prop} {listed : Array Bool} {a : Act} {w : World} (hlen : (List.drop 14 ops.toList).length = 6) (hB : Region.seqB .any ops 6 14 listed = true) (h : wpList P ops Q (List.drop 14 ops.toList) a w) : wpAny P .any ops Q 6 listed a w := by
  have := wpAny_of_seq (md := .any) (ops := ops) (P := P) (Q' := Q) (List.drop 14 ops.toList) 14 listed a w (fun j => by simp [List.getElem?_drop]) (by rw [hlen]; exact hB) h
  rwa [hlen] at this
theorem Ch.done {c : Ch} {X w : World} {b : Bool} {x y : Value} (h : c.at' X w b true x y) : ∃ g cap, y = .slice (some ⟨g, 0, none⟩) (c.n + 1) cap ∧ w.ownsRow 0 c.e 1 y (c.n + 1) (c.xs ++ [c.u]) ∧ (c.v.ownBlock = some g ∨ X.heap.size ≤ g) := by
  unfold Ch.at' at h
  rw [if_pos rfl] at h
  exact h

theorem till_cast {P : Program} {ops : Array Oper} {Q : Exit → Act → World → Prop} {S : World → Prop} {t f : Nat} {l l' : Array Bool} {a : Act} {w : World} (h : l = l') (H : ∀ a' ops', a' = a → ops' = ops → wpTill P .any ops' Q S t f l' a' w) : wpTill P .any ops Q S t f l a w := by
  subst h; exact H a ops rfl rfl

theorem put_same (a : Act) (d : Tmp) (x z : Value) : (a.put (some d) x).put (some d) z = a.put (some d) z := by simp [Act.put]
theorem put_swap (a : Act) {d d' : Tmp} (h : d ≠ d') (x z : Value) : (a.put (some d) x).put (some d') z = (a.put (some d') z).put (some d) x := by simp [Act.put, Array.setIfInBounds_comm _ _ h]
theorem eval_other (a : Act) {d d' : Tmp} (h : d ≠ d') (x : Value) : (a.put (some d) x).eval (.tmp d') = a.eval (.tmp d') := by
  simp [Act.put, Act.eval, h]
theorem eval_self (a : Act) {d : Tmp} (h : d < a.tmps.size) (x : Value) : (a.put (some d) x).eval (.tmp d) = x := by
  simp [Act.put, Act.eval, h]
theorem put_size (a : Act) (d : Tmp) (x : Value) : (a.put (some d) x).tmps.size = a.tmps.size := by simp [Act.put]
/-- what the loads read -/
def S2 (pr : Nat) (fv iv : Value) (w' : World) : Prop := w'.cell? ⟨pr, 1, none⟩ = some fv ∧ w'.cell? ⟨pr, 2, none⟩ = some iv
/-- the frame with four slots laid -/
def A4 (a0 : Act) (x1 x2 y1 y2 : Value) : Act := (((a0.put (some 55) x1).put (some 61) x2).put (some 56) y1).put (some 62) y2
section
variable {a0 : Act} {x1 x2 y1 y2 z : Value}
theorem A4_55 : (A4 a0 x1 x2 y1 y2).put (some 55) z = A4 a0 z x2 y1 y2 := by
  unfold A4
  rw [put_swap _ (d := 62) (d' := 55) (by decide), put_swap _ (d := 56) (d' := 55) (by decide), put_swap _ (d := 61) (d' := 55) (by decide), put_same]
theorem A4_61 : (A4 a0 x1 x2 y1 y2).put (some 61) z = A4 a0 x1 z y1 y2 := by
  unfold A4
  rw [put_swap _ (d := 62) (d' := 61) (by decide), put_swap _ (d := 56) (d' := 61) (by decide), put_same]
theorem A4_56 : (A4 a0 x1 x2 y1 y2).put (some 56) z = A4 a0 x1 x2 z y2 := by
  unfold A4
  rw [put_swap _ (d := 62) (d' := 56) (by decide), put_same]
theorem A4_62 : (A4 a0 x1 x2 y1 y2).put (some 62) z = A4 a0 x1 x2 y1 z := by
  unfold A4
  rw [put_same]
theorem A4_old {d : Tmp} (h1 : 55 ≠ d) (h2 : 61 ≠ d) (h3 : 56 ≠ d) (h4 : 62 ≠ d) : (A4 a0 x1 x2 y1 y2).eval (.tmp d) = a0.eval (.tmp d) := by
  unfold A4
  rw [eval_other _ h4, eval_other _ h3, eval_other _ h2, eval_other _ h1]
theorem A4_e55 (h : 55 < a0.tmps.size) : (A4 a0 x1 x2 y1 y2).eval (.tmp 55) = x1 := by
  unfold A4
  rw [eval_other _ (d := 62) (by decide), eval_other _ (d := 56) (by decide), eval_other _ (d := 61) (by decide), eval_self _ h]
theorem A4_e61 (h : 61 < a0.tmps.size) : (A4 a0 x1 x2 y1 y2).eval (.tmp 61) = x2 := by
  unfold A4
  rw [eval_other _ (d := 62) (by decide), eval_other _ (d := 56) (by decide), eval_self _ (by rw [put_size]; exact h)]
end

set_option maxRecDepth 4000 in
set_option maxHeartbeats 4000000 in
theorem take_newR (pr most steps : Nat) (pl : List ((Nat → Int) × Bool)) (hl : pl.length ≠ most) (F : Nat → Prop) (w : World) (h : IsR w F pr ⟨most, pl, [], steps⟩) (hs : steps ≤ 1000000) :
    Calls Try.prog 27 #[.pointer (some ⟨pr, 0, none⟩)] w fun e w' => e = .returned (.tuple #[.int .i64 (pl.length : Int), .bool true]) ∧ IsR w' (Grow F w w') pr ⟨most, pl ++ [(fr, true)], [], steps + 1⟩ ∧ Kept F w w' := by
  have OK := hid (show Ok ⟨most, pl ++ [(fr, true)], [], steps + 1⟩ by have := h.ok.take; rwa [takeS_new hl] at this)
  have FL := hid h.lt
  obtain ⟨hpr, h4, hz, -⟩ := h.steps
  have T := hid h.ticked
  clear h
  simp only [] at h4
  obtain ⟨fv, iv, bv, gs, hr, f1, f2, f3, f4, f5, f6, ok⟩ := T.out.1
  obtain ⟨hp', k0, k1, k2, k3, k4⟩ := hr.fields
  obtain ⟨fa, fc, rfl⟩ := own_form hr.fs
  obtain ⟨ia, ic, rfl⟩ := own_form hr.ins
  obtain ⟨ba, bc, rfl⟩ := own_form hr.back
  have hlen : pl.length ≤ 65536 := Nat.le_trans ok.fits ok.top
  have hfit : pl.length ≤ most := ok.fits
  have c1 : decide ((most : Int) ≤ (pl.length : Int)) = false := by simp; omega
  have g0 : gs.length = pl.length := hr.len
  have OF := hid hr.fs
  have OI := hid hr.ins
  rw [g0] at k1 OF hr f2
  have HR := hid hr
  have kz1 := blk_free (j := 1) hr.blk
  have kz2 := blk_free (j := 2) hr.blk
  replace k0 : (w.setCell ⟨pr, 4, none⟩ (.int .i64 ((steps : Int) + 1))).cell? ⟨pr, 0, none⟩ = some (.int .i64 most) := k0
  replace k1 : (w.setCell ⟨pr, 4, none⟩ (.int .i64 ((steps : Int) + 1))).cell? ⟨pr, 1, none⟩ = some (.slice fa pl.length fc) := k1
  replace k2 : (w.setCell ⟨pr, 4, none⟩ (.int .i64 ((steps : Int) + 1))).cell? ⟨pr, 2, none⟩ = some (.slice ia pl.length ic) := k2
  replace k3 : (w.setCell ⟨pr, 4, none⟩ (.int .i64 ((steps : Int) + 1))).cell? ⟨pr, 3, none⟩ = some (.slice ba 0 bc) := k3
  have F2 := hid f2
  have F3 := hid f3
  have F4 := hid f4
  have F5 := hid f5
  have F6 := hid f6
  have KK := hid T.out.2
  clear hr f2 f3 f4 f5 f6 ok k4 g0 T
  go_enter Try.func27, Try.ntmps27
  go_upto_region 2 with fail
  generalize w.setCell ⟨pr, 4, none⟩ (.int .i64 ((steps : Int) + 1)) = w2 at *
  clear h4 hz
  obtain ⟨ti, hti, hz0, hz1, hz2⟩ := info_parts info41
  obtain ⟨tj, htj, hy0, hy1, hy2⟩ := info_parts info4
  have HT := hid hti
  have Z0 := hid hz0
  have Z1 := hid hz1
  have Z2 := hid hz2
  have HU := hid htj
  have Y0 := hid hy0
  have Y1 := hid hy1
  have Y2 := hid hy2
  have np1 : Hid ((Value.slice fa pl.length fc).ownBlock ≠ some pr) := own_ne_block OF.out HR.out.blk (by decide)
  have np2 : Hid ((Value.slice ia pl.length ic).ownBlock ≠ some pr) := own_ne_block OI.out HR.out.blk (by decide)
  clear hti hz0 hz1 hz2 htj hy0 hy1 hy2
  go_upto_region 9 with fail
  clear k3 k0
  refine wp_region_any (by kernel_rfl) ?_
  change wpAny _ _ _ _ 20 _ _ _
  refine wpAny_take (i := 0) (v := .pointer (some ⟨pr, 0, none⟩)) rfl (by kernel_rfl) (by kernel_rfl) (by kernel_rfl) (fun _ _ _ h => h) (Or.inl ⟨rfl, fun w => by go_simp⟩) ?_
  refine wpAny_take (i := 1) (v := .pointer (some ⟨pr, 0, none⟩)) rfl (by kernel_rfl) (by kernel_rfl) (by kernel_rfl) (fun _ _ _ h => h) (Or.inl ⟨rfl, fun w => by go_simp⟩) ?_
  refine wpAny_take (i := 2) (v := .pointer (some ⟨pr, 0, none⟩)) rfl (by kernel_rfl) (by kernel_rfl) (by kernel_rfl) (fun _ _ _ h => h) (Or.inl ⟨rfl, fun w => by go_simp⟩) ?_
  refine wpAny_take (i := 3) (v := .pointer (some ⟨pr, 0, none⟩)) rfl (by kernel_rfl) (by kernel_rfl) (by kernel_rfl) (fun _ _ _ h => h) (Or.inl ⟨rfl, fun w => by go_simp⟩) ?_
  refine wpAny_take (i := 4) (v := .pointer (some ⟨pr, 1, none⟩)) rfl (by kernel_rfl) (by kernel_rfl) (by kernel_rfl) (fun _ _ _ h => h) (Or.inl ⟨rfl, fun w => by go_simp⟩) ?_
  refine wpAny_take (i := 8) (v := .pointer (some ⟨pr, 0, none⟩)) rfl (by kernel_rfl) (by kernel_rfl) (by kernel_rfl) (fun _ _ _ h => h) (Or.inl ⟨rfl, fun w => by go_simp⟩) ?_
  refine wpAny_take (i := 9) (v := .pointer (some ⟨pr, 0, none⟩)) rfl (by kernel_rfl) (by kernel_rfl) (by kernel_rfl) (fun _ _ _ h => h) (Or.inl ⟨rfl, fun w => by go_simp⟩) ?_
  refine wpAny_take (i := 10) (v := .pointer (some ⟨pr, 2, none⟩)) rfl (by kernel_rfl) (by kernel_rfl) (by kernel_rfl) (fun _ _ _ h => h) (Or.inl ⟨rfl, fun w => by go_simp⟩) ?_
  refine any_of_till (S := S2 pr (.slice fa pl.length fc) (.slice ia pl.length ic)) (t := 14) _ _ _ _ ?_
  have hSX : S2 pr (.slice fa pl.length fc) (.slice ia pl.length ic) w2.drew := ⟨k1, k2⟩
  refine till_take (i := 5) (v := .slice fa pl.length fc) rfl (by kernel_rfl) (by kernel_rfl) (by kernel_rfl) (fun _ _ _ h => h) (by decide) (by kernel_rfl) (by kernel_rfl) (Or.inl ⟨rfl, fun w hS => by obtain ⟨q1, q2⟩ := hS; go_simp⟩) hSX ?_
  refine till_take (i := 11) (v := .slice ia pl.length ic) rfl (by kernel_rfl) (by kernel_rfl) (by kernel_rfl) (fun _ _ _ h => h) (by decide) (by kernel_rfl) (by kernel_rfl) (Or.inl ⟨rfl, fun w hS => by obtain ⟨q1, q2⟩ := hS; go_simp⟩) hSX ?_
  refine till_cast (l' := L4 false false false false) (by kernel_rfl) fun a0 ops ha0 hops => ?_
  simp [Act.put] at ha0
  obtain ⟨o6, q6, g6, d6, op6⟩ : ∃ o : Oper, ops[6]? = some o ∧ o.guard = none ∧ o.dst = some 55 ∧ o.op = .buildSlice 49 1 #[(0, .const (.slice none 0 0))] := by rw [hops]; exact ⟨_, rfl, rfl, rfl, rfl⟩
  obtain ⟨o12, q12, g12, d12, op12⟩ : ∃ o : Oper, ops[12]? = some o ∧ o.guard = none ∧ o.dst = some 61 ∧ o.op = .buildSlice 50 1 #[(0, .const (.bool false))] := by rw [hops]; exact ⟨_, rfl, rfl, rfl, rfl⟩
  obtain ⟨o7, q7, g7, d7, op7⟩ : ∃ o : Oper, ops[7]? = some o ∧ o.guard = none ∧ o.dst = some 56 ∧ o.op = .call { callee := .builtin .append, args := #[.tmp 54, .tmp 55], argTypes := #[49, 49] } := by rw [hops]; exact ⟨_, rfl, rfl, rfl, rfl⟩
  obtain ⟨o13, q13, g13, d13, op13⟩ : ∃ o : Oper, ops[13]? = some o ∧ o.guard = none ∧ o.dst = some 62 ∧ o.op = .call { callee := .builtin .append, args := #[.tmp 60, .tmp 61], argTypes := #[50, 50] } := by rw [hops]; exact ⟨_, rfl, rfl, rfl, rfl⟩
  have e54 : a0.eval (.tmp 54) = .slice fa pl.length fc := by rw [ha0]; rfl
  have e60 : a0.eval (.tmp 60) = .slice ia pl.length ic := by rw [ha0]; rfl
  have hsz1 : 55 < a0.tmps.size := by rw [ha0]; simp
  have hsz2 : 61 < a0.tmps.size := by rw [ha0]; simp
  have hA0 : a0 = A4 a0 undef undef undef undef := by rw [ha0]; rfl
  have hrX := HR.out.plain ((Kept.refl _ _).drew)
  have ofX := own_plain OF.out ((Kept.refl (fun _ => False) w2).drew)
  have oiX := own_plain OI.out ((Kept.refl (fun _ => False) w2).drew)
  refine duo_walk (X := w2.drew) (g := 6)
    (c1 := ⟨49, 41, ti, _, 24, .slice none 0 0, .slice fa pl.length fc, pl.length, row sl10 gs, Try.underlying49, HT.out, Z0.out, Z1.out, Z2.out, rfl, rfl, by omega, by decide⟩)
    (c2 := ⟨50, 4, tj, _, 1, .bool false, .slice ia pl.length ic, pl.length, row in1 pl, Try.underlying50, HU.out, Y0.out, Y1.out, Y2.out, rfl, rfl, by omega, by decide⟩)
    (A := A4 a0)
    ⟨(show (41 : Nat) ≠ 4 by decide), ofX, oiX,
      fun x1 x2 y1 y2 w => ⟨o6, q6, g6, exec_build49 op6, fun z => by rw [d6]; exact A4_55⟩,
      fun x1 x2 y1 y2 w => ⟨o12, q12, g12, exec_build50 op12, fun z => by rw [d12]; exact A4_61⟩,
      fun x1 x2 y1 y2 => ⟨o7, o7.type, q7, g7, fun w y' w' hr => exec_append op7 ((A4_old (by decide) (by decide) (by decide) (by decide)).trans e54) (A4_e55 hsz1) hr, fun z => by rw [d7]; exact A4_56⟩,
      fun x1 x2 y1 y2 => ⟨o13, o13.type, q13, g13, fun w y' w' hr => exec_append op13 ((A4_old (by decide) (by decide) (by decide) (by decide)).trans e60) (A4_e61 hsz2) hr, fun z => by rw [d13]; exact A4_62⟩,
      ?rdy⟩ ?hS ?hend 4 false false false false (fun h => by cases h) (fun h => by cases h) rfl a0 _ undef undef undef undef ⟨hA0, ?k1, ?k2, Kept.refl _ _⟩
  case rdy =>
    intro b1 b2 d1 d2 v1 v2 hd
    cases hd
    cases b1 <;> cases b2 <;> cases d1 <;> first | (exfalso; simp at v1; done) | (rw [hops]; kernel_rfl)
  case hS =>
    intro w' hk
    have hp : ¬ ((Value.slice fa pl.length fc).ownBlock = some pr ∨ (Value.slice ia pl.length ic).ownBlock = some pr) := fun q => q.elim np1.out np2.out
    exact ⟨(hk.cell (p := ⟨pr, 1, none⟩) hp' hp).trans k1, (hk.cell (p := ⟨pr, 2, none⟩) hp' hp).trans k2⟩
  case k1 => exact ⟨ofX, fun h => by cases h⟩
  case k2 => exact ⟨oiX, fun h => by cases h⟩
  case hend =>
    intro x1 x2 y1 y2 a w' hT
    refine till_last (f := 5) (by rw [hops]; kernel_rfl) ?_
    obtain ⟨g1, cp1, rfl, ow1, at1⟩ := Ch.done hT.k1
    obtain ⟨g2, cp2, rfl, ow2, at2⟩ := Ch.done hT.k2
    have kp := hT.kp
    have hfr := hT.fr
    simp only [] at ow1 ow2 at1 at2
    clear hT
    refine seq_tail (by rw [hops]; rfl) (by rw [hops]; kernel_rfl) ?_
    rw [hfr]
    clear q6 q7 q12 q13 hfr hA0 e54 e60 hsz1 hsz2
    subst hops ha0
    simp only [A4, Act.put, List.drop_succ_cons, List.drop_zero, List.setIfInBounds_toArray, List.set_cons_succ, List.set_cons_zero]
    have hp : ¬ ((Value.slice fa pl.length fc).ownBlock = some pr ∨ (Value.slice ia pl.length ic).ownBlock = some pr) := fun q => q.elim np1.out np2.out
    have j1 := (kp.cell (p := ⟨pr, 1, none⟩) hp' hp).trans k1
    have j2 := (kp.cell (p := ⟨pr, 2, none⟩) hp' hp).trans k2
    have kb := (kp.block pr hp' hp).trans hrX.blk
    have jf1 := blk_free (j := 1) kb
    have jf2 := blk_free (j := 2) kb
    have kl := lt_of_block kb
    have HX := hid (HR.out.newX (((Kept.refl (fun _ => False) w2).drew.mono (fun _ e => e.elim)).trans' kp) ow1 ow2)
    have KP := hid kp
    have AT := hid (And.intro at1 at2)
    clear hrX ofX oiX kp ow1 ow2 at1 at2 k1 k2 kb hp hSX kz1 kz2
    go_upto_region 10 with fail
    obtain ⟨W, hW⟩ : ∃ W, W = (w'.setCell ⟨pr, 1, none⟩ (.slice (some ⟨g1, 0, none⟩) (pl.length + 1) cp1)).setCell ⟨pr, 2, none⟩ (.slice (some ⟨g2, 0, none⟩) (pl.length + 1) cp2) := ⟨_, rfl⟩
    rw [← hW]
    have hX := HX.out
    replace hX : RawX ((w'.setCell ⟨pr, 1, none⟩ (.slice (some ⟨g1, 0, none⟩) (pl.length + 1) cp1)).setCell ⟨pr, 2, none⟩ (.slice (some ⟨g2, 0, none⟩) (pl.length + 1) cp2)) pr (.slice (some ⟨g1, 0, none⟩) (pl.length + 1) cp1) (.slice (some ⟨g2, 0, none⟩) (pl.length + 1) cp2) (.slice ba 0 bc) (gs ++ [0]) (gs.map slv ++ [.slice none 0 0]) pl.length ⟨most, pl ++ [cl0], [], steps + 1⟩ := hX
    rw [← hW] at hX
    have KW : Hid (Kept F w W) := by
      rw [hW]
      exact ((((KK.out.drew).trans' (KP.out.mono (fun k q => q.elim (F2.out k) (F3.out k)))).setCell (p := ⟨pr, 1, none⟩) (Or.inl f1) _).setCell (p := ⟨pr, 2, none⟩) (Or.inl f1) _)
    have hsX : w.heap.size ≤ w2.heap.size := KK.out.size
    have FV : Hid (∀ k, (Value.slice (some ⟨g1, 0, none⟩) (pl.length + 1) cp1).ownBlock = some k → F k ∨ w.heap.size ≤ k) := fun k hk => by
      cases hk
      exact AT.out.1.imp (F2.out _) (fun q => Nat.le_trans hsX q)
    have IV : Hid (∀ k, (Value.slice (some ⟨g2, 0, none⟩) (pl.length + 1) cp2).ownBlock = some k → F k ∨ w.heap.size ≤ k) := fun k hk => by
      cases hk
      exact AT.out.2.imp (F3.out _) (fun q => Nat.le_trans hsX q)
    have BV : Hid (∀ k, (Value.slice ba 0 bc).ownBlock = some k → F k ∨ w.heap.size ≤ k) := fun k hk => Or.inl (F4.out k hk)
    have hgl : gs.length = pl.length := HR.out.len
    have GM : Hid (∀ B, ∀ g ∈ (gs ++ [0]).set pl.length B, F g ∨ g = B) := fun B g hg => by
      rw [← hgl, List.set_append_right _ _ (Nat.le_refl _)] at hg
      simp at hg
      exact hg.imp (F5.out g) id
    have hcn : pl.length < (St.pl ⟨most, pl ++ [cl0], [], steps + 1⟩).length := by simp
    have hsmall : (St.pl ⟨most, pl ++ [cl0], [], steps + 1⟩).length ≤ 70000 := by simp; omega
    have HX := hid hX
    clear hX hW hgl j1 j2 jf1 jf2 kl hp' KP AT
    generalize (Value.slice (some ⟨g1, 0, none⟩) (pl.length + 1) cp1) = fv1 at HX FV
    generalize (Value.slice (some ⟨g2, 0, none⟩) (pl.length + 1) cp2) = iv1 at HX IV
    generalize (Value.slice ba 0 bc) = bv1 at HX BV
    generalize (gs ++ [0]) = gs1 at HX GM
    generalize (gs.map slv ++ [Value.slice none 0 0]) = vs1 at HX
    obtain ⟨S1, hS1⟩ : ∃ S1 : St, S1 = ⟨most, pl ++ [cl0], [], steps + 1⟩ := ⟨_, rfl⟩
    rw [← hS1] at HX hcn hsmall
    obtain ⟨c, hcc⟩ : ∃ c, c = pl.length := ⟨_, rfl⟩
    rw [← hcc] at HX hcn GM
    rw [← hcc]
    have ES := hid (show (⟨S1.most, S1.pl.set c (fr, true), S1.back, S1.steps⟩ : St) = ⟨most, pl ++ [(fr, true)], [], steps + 1⟩ by rw [hS1, hcc]; simp)
    have RE := hid (show Ending.returned (.tuple #[.int .i64 (c : Int), .bool true]) = .returned (.tuple #[.int .i64 (pl.length : Int), .bool true]) by rw [hcc])
    clear hS1 hcc
    obtain ⟨hpW, -, y1, y2, -, -⟩ := HX.out.fields
    have hcv : c < vs1.length := by rw [HX.out.lenv]; exact hcn
    obtain ⟨fb, fcp, efv, hfb, hff, hfc⟩ := own1_at HX.out.fs one1_len (List.getElem?_eq_getElem hcv)
    obtain ⟨ib, icp, eiv, hib, hif, hic⟩ := own1_at HX.out.ins in1_len (List.getElem?_eq_getElem hcn)
    subst efv
    subst eiv
    replace hfc := hfc.trans (show (one1 vs1[c])[0]? = some vs1[c] from rfl)
    replace hic := hic.trans (show (in1 S1.pl[c])[0]? = some (.bool S1.pl[c].2) from rfl)
    generalize vs1[c] = ov at hfc
    generalize S1.pl[c].2 = ob at hic
    have nfp : fb ≠ pr := fun e => own_ne_block HX.out.fs HX.out.blk (by decide) (by rw [e]; rfl)
    have nip : ib ≠ pr := fun e => own_ne_block HX.out.ins HX.out.blk (by decide) (by rw [e]; rfl)
    have nfi : fb ≠ ib := fun e => ne_of_own HX.out.fs HX.out.ins (by decide) rfl (by rw [e]; rfl)
    have npf : pr ≠ fb := fun e => nfp e.symm
    have npi : pr ≠ ib := fun e => nip e.symm
    have nif : ib ≠ fb := fun e => nfi e.symm
    have zf := hff c
    have zi := hif c
    have hc1 : (c : Int) < (vs1.length : Int) := by omega
    have hc2 : (c : Int) < (S1.pl.length : Int) := by omega
    have hn1 : vs1.length ≤ 70000 := by rw [HX.out.lenv]; exact hsmall
    have HCN := hid hcn
    clear hff hif hcv hcn
    go_region_held3 (fun w' => w'.cell? ⟨pr, 1, none⟩ = some (.slice (some ⟨fb, 0, none⟩) vs1.length fcp) ∧ w'.cell? ⟨pr, 2, none⟩ = some (.slice (some ⟨ib, 0, none⟩) S1.pl.length icp)) (first | exact ⟨z1, z2⟩ | exact ⟨y1, y2⟩ | (simp [go_sem]; exact ⟨z1, z2⟩) | (simp [go_sem, npf]; exact ⟨z1, z2⟩) | (simp [go_sem, npf, npi]; exact ⟨z1, z2⟩))
      (first
        | (go_at_call 37; refine (freshR _).mono ?_; rintro e w7 ⟨rfl, hB7, k7, l7⟩; have z1 := (k7.cell (p := ⟨pr, 1, none⟩) hpW (fun e => e)).trans y1; have z2 := (k7.cell (p := ⟨pr, 2, none⟩) hpW (fun e => e)).trans y2; have z3 := (k7.cell (p := ⟨fb, c, none⟩) hfb (fun e => e)).trans hfc; have z4 := (k7.cell (p := ⟨ib, c, none⟩) hib (fun e => e)).trans hic; have z5 := (World.frozen?_of_block (a := ⟨fb, c, none⟩) (k7.block fb hfb (fun e => e))).trans zf; have z6 := (World.frozen?_of_block (a := ⟨ib, c, none⟩) (k7.block ib hib (fun e => e))).trans zi; have l1 : fb < w7.heap.size := Nat.lt_of_lt_of_le hfb k7.size; have l2 : ib < w7.heap.size := Nat.lt_of_lt_of_le hib k7.size; have B7 := hid (hB7 true); have K7 := hid k7; have L7 := hid l7; clear hB7 k7 l7))
    clear y1 y2 z1 z2 z3 z4 z5 z6 hfc hic zf zi
    go_wp2
    go_ret2
    have R8 := HX.out.fill HCN.out (((Kept.refl _ _).drew).trans' K7.out) (Nat.le_refl _) B7.out
    have K8 : Kept F w ((w7.setCell ⟨fb, c, none⟩ (slv W.heap.size)).setCell ⟨ib, c, none⟩ (.bool true)) := (((KW.out.drew).trans' (K7.out.mono fun _ e => e.elim)).setCell (p := ⟨fb, c, none⟩) (FV.out fb rfl) _).setCell (p := ⟨ib, c, none⟩) (IV.out ib rfl) _
    have hlt : ∀ k, k < w7.heap.size → k < ((w7.setCell ⟨fb, c, none⟩ (slv W.heap.size)).setCell ⟨ib, c, none⟩ (.bool true)).heap.size := fun k q => by simpa [World.setCell] using q
    rw [ES.out] at R8
    refine ⟨RE.out, ⟨_, _, _, _, R8, Or.inl f1, fun k hk => (FV.out k hk).imp id fun q => ⟨q, (R8.fs.lt k hk).2⟩, fun k hk => (IV.out k hk).imp id fun q => ⟨q, (R8.ins.lt k hk).2⟩, fun k hk => (BV.out k hk).imp id fun q => ⟨q, (R8.back.lt k hk).2⟩, fun g hg => (GM.out _ g hg).imp id fun q => (by rw [q]; exact ⟨KW.out.size, hlt _ L7.out⟩), Grow.lt FL.out K8.size, OK.out⟩, K8⟩

set_option maxRecDepth 4000 in
set_option maxHeartbeats 4000000 in
theorem take_backR (pr most steps : Nat) (pl : List ((Nat → Int) × Bool)) (bk : List Nat) (c : Nat) (F : Nat → Prop) (w : World) (h : IsR w F pr ⟨most, pl, bk ++ [c], steps⟩) (hs : steps ≤ 1000000) :
    Calls Try.prog 27 #[.pointer (some ⟨pr, 0, none⟩)] w fun e w' => e = .returned (.tuple #[.int .i64 (c : Int), .bool true]) ∧ IsR w' (Grow F w w') pr ⟨most, pl.set c (fr, true), bk, steps + 1⟩ ∧ Kept F w w' := by
  have OK := hid (show Ok ⟨most, pl.set c (fr, true), bk, steps + 1⟩ by have := h.ok.take; rwa [takeS_back] at this)
  have FL := hid h.lt
  obtain ⟨hpr, h4, hz, -⟩ := h.steps
  have T := hid h.ticked
  clear h
  simp only [] at h4
  obtain ⟨fv, iv, bv, gs, hr, f1, f2, f3, f4, f5, f6, ok⟩ := T.out.1
  obtain ⟨hp', k0, k1, k2, k3, k4⟩ := hr.fields
  obtain ⟨fa, fc, rfl⟩ := own_form hr.fs
  have hlen : pl.length ≤ 65536 := Nat.le_trans ok.fits ok.top
  have hbl := ok.back_le
  have g0 : gs.length = pl.length := hr.len
  have hbk : (bk ++ [c]).length ≤ pl.length := hbl
  simp only [List.length_append, List.length_cons, List.length_nil] at hbk
  obtain ⟨y, hy⟩ := ok.free c (by show c ∈ bk ++ [c]; simp)
  have hcl : c < pl.length := (List.getElem?_eq_some_iff.1 hy).1
  have kz3 := blk_free (j := 3) hr.blk
  obtain ⟨g, cap, rfl, _, hg⟩ := hr.back.form (by show 0 < (bk ++ [c]).length; simp)
  have hcell : (w.setCell ⟨pr, 4, none⟩ (.int .i64 ((steps : Int) + 1))).cell? ⟨g, bk.length, none⟩ = some (.int .i64 c) := by
    have q := hr.back.cellAt bk.length (by show bk.length < (bk ++ [c]).length * 1; simp)
    rw [show row nat1 (tick ⟨most, pl, bk ++ [c], steps⟩).back = row nat1 bk ++ nat1 c from row_snoc bk c] at q
    rw [List.getElem?_append_right (by rw [row_length nat1_len]; omega), row_length nat1_len] at q
    simpa [nat1] using q
  have hcap : bk.length < cap := by
    obtain ⟨_, ⟨h', _⟩ | ⟨g', cap', cur, h', _, _, hn, _⟩⟩ := hr.back
    · cases h'
    · cases h'
      have hn' : (bk ++ [c]).length ≤ cap := hn
      simp at hn'; omega
  have hgp : pr ≠ g := fun e => own_ne_block hr.back hr.blk (by decide) (by simp [Value.ownBlock, e])
  have hX : RawX ((w.setCell ⟨pr, 4, none⟩ (.int .i64 ((steps : Int) + 1))).setCell ⟨pr, 3, none⟩ (.slice (some ⟨g, 0, none⟩) bk.length cap)) pr (.slice fa gs.length fc) iv (.slice (some ⟨g, 0, none⟩) bk.length cap) gs (gs.map slv) c ⟨most, pl, bk, steps + 1⟩ := by
    have hb2 := hr.back
    have hb3 := ownsRow_pop (row_length nat1_len bk) (by have q := hb2; rw [show row nat1 (tick ⟨most, pl, bk ++ [c], steps⟩).back = row nat1 bk ++ nat1 c from row_snoc bk c, show (tick ⟨most, pl, bk ++ [c], steps⟩).back.length = bk.length + 1 by show (bk ++ [c]).length = _; simp] at q; exact q)
    exact (hr.setBack hb3).toX c
  have FV : Hid (∀ k, (Value.slice fa gs.length fc).ownBlock = some k → F k ∨ w.heap.size ≤ k) := fun k hk => Or.inl (f2 k hk)
  have IV : Hid (∀ k, iv.ownBlock = some k → F k ∨ w.heap.size ≤ k) := fun k hk => Or.inl (f3 k hk)
  have BV : Hid (∀ k, (Value.slice (some ⟨g, 0, none⟩) bk.length cap).ownBlock = some k → F k ∨ w.heap.size ≤ k) := fun k hk => Or.inl (f4 k hk)
  have GM : Hid (∀ B, ∀ g ∈ gs.set c B, F g ∨ g = B) := fun B g hg => (List.mem_or_eq_of_mem_set hg).imp (f5 g) id
  have KK := hid T.out.2
  replace k1 : (w.setCell ⟨pr, 4, none⟩ (.int .i64 ((steps : Int) + 1))).cell? ⟨pr, 1, none⟩ = some (.slice fa gs.length fc) := k1
  replace k3 : (w.setCell ⟨pr, 4, none⟩ (.int .i64 ((steps : Int) + 1))).cell? ⟨pr, 3, none⟩ = some (.slice (some ⟨g, 0, none⟩) (bk.length + 1) cap) := by
    rw [k3]
    show some (Value.slice (some ⟨g, 0, none⟩) (bk ++ [c]).length cap) = _
    simp
  have hgl : gs.length ≤ 65536 := by omega
  have HX0 := hid hX
  have HCL := hid hcl
  clear hr f2 f3 f4 f5 f6 ok k0 k2 k4 g0 T hX hbl hy
  go_enter Try.func27, Try.ntmps27
  go_upto_region 2 with fail
  generalize w.setCell ⟨pr, 4, none⟩ (.int .i64 ((steps : Int) + 1)) = w2 at *
  clear h4 hz
  go_upto_region 10 with fail
  obtain ⟨W, hW⟩ : ∃ W, W = w2.setCell ⟨pr, 3, none⟩ (.slice (some ⟨g, 0, none⟩) bk.length cap) := ⟨_, rfl⟩
  rw [← hW]
  have hX := HX0.out
  rw [← hW] at hX
  have KW : Hid (Kept F w W) := by
    rw [hW]
    exact KK.out.setCell (p := ⟨pr, 3, none⟩) (Or.inl f1) _
  have HX := hid hX
  clear hX HX0 hW k1 k3 kz3 hcell hp' hgp
  generalize (Value.slice fa gs.length fc) = fv1 at HX FV
  generalize iv = iv1 at HX IV
  generalize (Value.slice (some ⟨g, 0, none⟩) bk.length cap) = bv1 at HX BV
  generalize (gs.map slv) = vs1 at HX
  obtain ⟨S1, hS1⟩ : ∃ S1 : St, S1 = ⟨most, pl, bk, steps + 1⟩ := ⟨_, rfl⟩
  rw [← hS1] at HX
  have hcn : c < S1.pl.length := by rw [hS1]; exact HCL.out
  have hsmall : S1.pl.length ≤ 70000 := by rw [hS1]; show pl.length ≤ _; omega
  have ES := hid (show (⟨S1.most, S1.pl.set c (fr, true), S1.back, S1.steps⟩ : St) = ⟨most, pl.set c (fr, true), bk, steps + 1⟩ by rw [hS1])
  clear hS1 hcl
  obtain ⟨hpW, -, y1, y2, -, -⟩ := HX.out.fields
  have hcv : c < vs1.length := by rw [HX.out.lenv]; exact hcn
  obtain ⟨fb, fcp, efv, hfb, hff, hfc⟩ := own1_at HX.out.fs one1_len (List.getElem?_eq_getElem hcv)
  obtain ⟨ib, icp, eiv, hib, hif, hic⟩ := own1_at HX.out.ins in1_len (List.getElem?_eq_getElem hcn)
  subst efv
  subst eiv
  replace hfc := hfc.trans (show (one1 vs1[c])[0]? = some vs1[c] from rfl)
  replace hic := hic.trans (show (in1 S1.pl[c])[0]? = some (.bool S1.pl[c].2) from rfl)
  generalize vs1[c] = ov at hfc
  generalize S1.pl[c].2 = ob at hic
  have nfp : fb ≠ pr := fun e => own_ne_block HX.out.fs HX.out.blk (by decide) (by rw [e]; rfl)
  have nip : ib ≠ pr := fun e => own_ne_block HX.out.ins HX.out.blk (by decide) (by rw [e]; rfl)
  have nfi : fb ≠ ib := fun e => ne_of_own HX.out.fs HX.out.ins (by decide) rfl (by rw [e]; rfl)
  have npf : pr ≠ fb := fun e => nfp e.symm
  have npi : pr ≠ ib := fun e => nip e.symm
  have nif : ib ≠ fb := fun e => nfi e.symm
  have zf := hff c
  have zi := hif c
  have hc1 : (c : Int) < (vs1.length : Int) := by omega
  have hc2 : (c : Int) < (S1.pl.length : Int) := by omega
  have hn1 : vs1.length ≤ 70000 := by rw [HX.out.lenv]; exact hsmall
  have HCN := hid hcn
  clear hff hif hcv hcn
  go_region_held3 (fun w' => w'.cell? ⟨pr, 1, none⟩ = some (.slice (some ⟨fb, 0, none⟩) vs1.length fcp) ∧ w'.cell? ⟨pr, 2, none⟩ = some (.slice (some ⟨ib, 0, none⟩) S1.pl.length icp)) (first | exact ⟨z1, z2⟩ | exact ⟨y1, y2⟩ | (simp [go_sem]; exact ⟨z1, z2⟩) | (simp [go_sem, npf]; exact ⟨z1, z2⟩) | (simp [go_sem, npf, npi]; exact ⟨z1, z2⟩))
    (first
      | (go_at_call 37; refine (freshR _).mono ?_; rintro e w7 ⟨rfl, hB7, k7, l7⟩; have z1 := (k7.cell (p := ⟨pr, 1, none⟩) hpW (fun e => e)).trans y1; have z2 := (k7.cell (p := ⟨pr, 2, none⟩) hpW (fun e => e)).trans y2; have z3 := (k7.cell (p := ⟨fb, c, none⟩) hfb (fun e => e)).trans hfc; have z4 := (k7.cell (p := ⟨ib, c, none⟩) hib (fun e => e)).trans hic; have z5 := (World.frozen?_of_block (a := ⟨fb, c, none⟩) (k7.block fb hfb (fun e => e))).trans zf; have z6 := (World.frozen?_of_block (a := ⟨ib, c, none⟩) (k7.block ib hib (fun e => e))).trans zi; have l1 : fb < w7.heap.size := Nat.lt_of_lt_of_le hfb k7.size; have l2 : ib < w7.heap.size := Nat.lt_of_lt_of_le hib k7.size; have B7 := hid (hB7 true); have K7 := hid k7; have L7 := hid l7; clear hB7 k7 l7))
  clear y1 y2 z1 z2 z3 z4 z5 z6 hfc hic zf zi
  go_wp2
  go_ret2
  have R8 := HX.out.fill HCN.out (((Kept.refl _ _).drew).trans' K7.out) (Nat.le_refl _) B7.out
  have K8 : Kept F w ((w7.setCell ⟨fb, c, none⟩ (slv W.heap.size)).setCell ⟨ib, c, none⟩ (.bool true)) := (((KW.out.drew).trans' (K7.out.mono fun _ e => e.elim)).setCell (p := ⟨fb, c, none⟩) (FV.out fb rfl) _).setCell (p := ⟨ib, c, none⟩) (IV.out ib rfl) _
  have hlt : ∀ k, k < w7.heap.size → k < ((w7.setCell ⟨fb, c, none⟩ (slv W.heap.size)).setCell ⟨ib, c, none⟩ (.bool true)).heap.size := fun k q => by simpa [World.setCell] using q
  rw [ES.out] at R8
  refine ⟨rfl, ⟨_, _, _, _, R8, Or.inl f1, fun k hk => (FV.out k hk).imp id fun q => ⟨q, (R8.fs.lt k hk).2⟩, fun k hk => (IV.out k hk).imp id fun q => ⟨q, (R8.ins.lt k hk).2⟩, fun k hk => (BV.out k hk).imp id fun q => ⟨q, (R8.back.lt k hk).2⟩, fun g hg => (GM.out _ g hg).imp id fun q => (by rw [q]; exact ⟨KW.out.size, hlt _ L7.out⟩), Grow.lt FL.out K8.size, OK.out⟩, K8⟩

set_option maxHeartbeats 2000000 in
theorem take_fullR (pr most steps : Nat) (pl : List ((Nat → Int) × Bool)) (hl : pl.length = most) (F : Nat → Prop) (w : World) (h : IsR w F pr ⟨most, pl, [], steps⟩) (hs : steps ≤ 1000000) :
    Calls Try.prog 27 #[.pointer (some ⟨pr, 0, none⟩)] w fun e w' => e = .returned (.tuple #[.int .i64 (-1), .bool false]) ∧ IsR w' F pr ⟨most, pl, [], steps + 1⟩ ∧ Kept F w w' := by
  obtain ⟨hpr, h4, hz, -⟩ := h.steps
  have T := hid h.ticked
  clear h
  simp only [] at h4
  obtain ⟨fv, iv, bv, gs, hr, f1, f2, f3, f4, f5, f6, ok⟩ := T.out.1
  obtain ⟨hp', k0, k1, k2, k3, k4⟩ := hr.fields
  obtain ⟨fa, fc, rfl⟩ := own_form hr.fs
  obtain ⟨ba, bc, rfl⟩ := own_form hr.back
  have hlen : pl.length ≤ 65536 := Nat.le_trans ok.fits ok.top
  have g0 : gs.length = pl.length := hr.len
  rw [g0] at k1
  have hge : (most : Int) ≤ (pl.length : Int) := by omega
  replace k0 : (w.setCell ⟨pr, 4, none⟩ (.int .i64 ((steps : Int) + 1))).cell? ⟨pr, 0, none⟩ = some (.int .i64 most) := k0
  replace k1 : (w.setCell ⟨pr, 4, none⟩ (.int .i64 ((steps : Int) + 1))).cell? ⟨pr, 1, none⟩ = some (.slice fa pl.length fc) := k1
  replace k3 : (w.setCell ⟨pr, 4, none⟩ (.int .i64 ((steps : Int) + 1))).cell? ⟨pr, 3, none⟩ = some (.slice ba 0 bc) := k3
  clear hr f1 f2 f3 f4 f5 f6 ok k2 k4 g0 hl
  go_enter Try.func27, Try.ntmps27
  go_upto_region 2 with fail
  generalize w.setCell ⟨pr, 4, none⟩ (.int .i64 ((steps : Int) + 1)) = w2 at *
  clear h4 hz
  go_wp2
  go_ret2
  exact ⟨rfl, T.out⟩

theorem takeR (pr : Nat) (s : St) (F : Nat → Prop) (w : World) (h : IsR w F pr s) (hs : s.steps ≤ 1000000) :
    Calls Try.prog 27 #[.pointer (some ⟨pr, 0, none⟩)] w fun e w' => e = .returned (.tuple #[.int .i64 (nextS s), .bool (decide (0 ≤ nextS s))]) ∧ IsR w' (Grow F w w') pr (takeS s) ∧ Kept F w w' := by
  have FL := h.lt
  obtain ⟨most, pl, back, steps⟩ := s
  rcases snoc_or back with rfl | ⟨bk, a, rfl⟩
  · by_cases c : pl.length = most
    · rw [nextS_full c, takeS_full c]
      exact (take_fullR pr most steps pl c F w h hs).mono fun _ _ ⟨h1, h2, h3⟩ => ⟨h1, h2.widen (fun _ e => Or.inl e) (Grow.lt FL h3.size), h3⟩
    · rw [nextS_new c, takeS_new c]
      exact (take_newR pr most steps pl c F w h hs).mono fun _ _ ⟨h1, h2, h3⟩ => ⟨by rw [h1]; simp, h2, h3⟩
  · rw [nextS_back, takeS_back]
    exact (take_backR pr most steps pl bk a F w h hs).mono fun _ _ ⟨h1, h2, h3⟩ => ⟨by rw [h1]; simp, h2, h3⟩
end Go.Proofs.Ytokmefgdbklepaa
