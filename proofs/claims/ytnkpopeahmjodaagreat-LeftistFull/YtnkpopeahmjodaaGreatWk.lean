/- The laws' walk of the first heap. -/
import Derived.Test.YtnkpopeahmjodaaGreatWj
namespace Go.Proofs.YtnkpopeahmjodaaGreat
open Go.ChangeShapes Go.WideShapes Go.ChangeAt Go.RowKit
open Tr

set_option maxHeartbeats 8000000 in
set_option maxRecDepth 100000 in
theorem walk0 {w0 : Fm} {F : Nat → Prop} {pw pa pm : Nat} {v0 v1 : Value} {s : St} {r0 r1 : Int} {L0 L1 : List (Nat × Int × Int)} {nx sp mo : Int} (ok : Ok s) (hl : L0.length ≤ 1000) : ∀ (t : Tr) (w : World) (k0 : Nat) (u : Int) (y : Nat × Int × Int) (top : Bool),
    Wx w0 w F pw pa pm v0 v1 (tk s k0) r0 r1 L0 L1 nx sp mo → Wk s L0 t → (t.cells.Nodup) → (∀ c : Nat, t.root = (c : Int) → cellS s (c : Int) 0 = u) → (top = true ∨ ∀ n i l r, t = nd n i l r → ∀ a x, Held s L0 i a x → befH x y = false) → s.steps + k0 + 12 * t.size ≤ 80000000 →
    Calls Tryz.prog 51 #[.pointer (some ⟨pw, 0, none⟩), .int .i64 0, .int .i64 t.root, .int .i64 u, hv y, .bool top] w fun e w' => e = .returned (.tuple #[.int .i64 (t.rank : Int), .int .i64 (t.size : Int), .bool true]) ∧ ∃ k, k ≤ k0 + 12 * t.size ∧ Ex F w w' pa pm (tk s k)
  | lf, w, k0, u, y, top => fun h hk hnd hu ht hs => by
    have X := hid ((Ex.start h.is).plain ((Kept.refl _ _).alloc (.cells #[.int .i64 (y.1 : Int), .int .i64 y.2.1, .int .i64 y.2.2] 46)))
    obtain ⟨yc, yk, ys⟩ := y
    unfold hv
    simp only [root, Tr.rank, Tr.size]
    clear h hk hu ht
    go_enter Tryz.func51, Tryz.ntmps51
    go_wp2
    go_ret3
    exact ⟨rfl, k0, by omega, X.out⟩
  | nd n i l r, w, k0, u, y, top => fun h hk hnd hu ht hs => by
    have IHl := hid (fun w k0 u y top => walk0 (w0 := w0) (F := F) (pw := pw) (pa := pa) (pm := pm) (v0 := v0) (v1 := v1) (r0 := r0) (r1 := r1) (L0 := L0) (L1 := L1) (nx := nx) (sp := sp) (mo := mo) ok hl l w k0 u y top)
    have IHr := hid (fun w k0 u y top => walk0 (w0 := w0) (F := F) (pw := pw) (pa := pa) (pm := pm) (v0 := v0) (v1 := v1) (r0 := r0) (r1 := r1) (L0 := L0) (L1 := L1) (nx := nx) (sp := sp) (mo := mo) ok hl r w k0 u y top)
    obtain ⟨kl, kr⟩ := hk.parts
    obtain ⟨a, x, hx⟩ := hk.it i (by simp [Tr.items])
    obtain ⟨⟨a1, a2⟩, ⟨b1, b2, b3, b4, b5, b6⟩, ⟨u1, u2⟩, hpl, hpr⟩ := hk.hp
    have hsz := hk.sz
    simp only [Tr.size] at hsz hs
    have c6 := it_tree ok hk.hp
    have c9 := no_tree ok hk.hp
    have cu := hu n rfl
    have c1d : cellS s (n : Int) 1 = -1 := cell_neg (j := 1) a1 (by decide) b1
    have c2l : cellS s (n : Int) 2 = l.root := cell_root (j := 2) ok a1 (by decide) b2 hpl
    have c3r : cellS s (n : Int) 3 = r.root := cell_root (j := 3) ok a1 (by decide) b3 hpr
    have g4 : getS s (n : Int) 4 = ((r.rank + 1 : Nat) : Int) := (get_nat (j := 4) a1 (by decide)).trans b4
    have lr := hk.lft.1
    simp only [Tr.cells, List.nodup_cons, List.nodup_append] at hnd
    have NL := hid hnd.2.2.1
    have NR := hid hnd.2.2.2.1
    have UL := hid (show ∀ c : Nat, l.root = (c : Int) → cellS s (c : Int) 0 = (n : Int) from fun c hc => cell_nat (j := 0) ok (root_live hpl c hc) (by decide) (up_root.1 u1 c hc) a1)
    have UR := hid (show ∀ c : Nat, r.root = (c : Int) → cellS s (c : Int) 0 = (n : Int) from fun c hc => cell_nat (j := 0) ok (root_live hpr c hc) (by decide) (up_root.1 u2 c hc) a1)
    have OL := hid (show ∀ n' i' l' r', l = nd n' i' l' r' → ∀ a' x', Held s L0 i' a' x' → befH x' x = false from fun n' i' l' r' e a' x' hx' => by rw [befH_held hx' hx]; exact hk.od.1 i' (by rw [e]; simp [Tr.items]))
    have OR := hid (show ∀ n' i' l' r', r = nd n' i' l' r' → ∀ a' x', Held s L0 i' a' x' → befH x' x = false from fun n' i' l' r' e a' x' hx' => by rw [befH_held hx' hx]; exact hk.od.1 i' (by rw [e]; simp [Tr.items]))
    have BF := hid (show top = true ∨ befH x y = false from ht.imp id fun q => q n i l r rfl a x hx)
    have KL := hid kl
    have KR := hid kr
    have hgi7 : getS s (x.1 : Int) 7 = x.2.1 := by rw [hx.2.1]; exact (get_nat (j := 7) a2 (by decide)).trans hx.2.2.2.1
    have hgi8 : getS s (x.1 : Int) 8 = x.2.2 := by rw [hx.2.1]; exact (get_nat (j := 8) a2 (by decide)).trans hx.2.2.2.2
    have HW := hid h
    obtain ⟨pb, hpb⟩ : ∃ pb, pb = w.heap.size := ⟨_, rfl⟩
    have HPB := hid hpb
    have W1 := hid (h.plain ((Kept.refl _ _).alloc (.cells #[.int .i64 (y.1 : Int), .int .i64 y.2.1, .int .i64 y.2.2] 46)))
    have ND := hid (node0 W1.out (n : Int) a x hx.1 hx.2.2.1 (by rw [show cellS (tk s k0) (n : Int) 6 = cellS s (n : Int) 6 from rfl, c6, hx.2.1]) (by rw [show cellS (tk s k0) (x.1 : Int) 9 = cellS s (x.1 : Int) 9 from rfl, hx.2.1, c9]) hgi7 hgi8 hl (by show s.steps + k0 ≤ _; omega))
    have P1 := hid (show (w.alloc (.cells #[.int .i64 (y.1 : Int), .int .i64 y.2.1, .int .i64 y.2.2] 46)).heap[pb]? = some (.cells #[.int .i64 (y.1 : Int), .int .i64 y.2.1, .int .i64 y.2.2] 46) by rw [hpb]; exact heap_alloc_new w _)
    have NFp : Hid (¬ F pw) := h.out
    have FL := hid h.is.lt
    have X1 := hid ((Ex.start h.is).plain ((Kept.refl _ _).alloc (.cells #[.int .i64 (y.1 : Int), .int .i64 y.2.1, .int .i64 y.2.2] 46)))
    have hpbw : w.heap.size = pb := hpb.symm
    have CU := hid cu
    have CD := hid c1d
    have CL := hid c2l
    have CR := hid c3r
    have G4 := hid g4
    have BH := hid (fun w => beforeH x y w)
    have hn1 : ((n : Int) == -1) = false := by simp
    have hn2 : ¬ (n : Int) = -1 := by omega
    obtain ⟨yc, yk, ys⟩ := y
    obtain ⟨xc, xk, xs⟩ := x
    unfold hv at ND BH ⊢
    simp only at ND BH P1 X1 W1
    simp only [root]
    clear h hk ht hu kl kr hx a1 a2 b1 b2 b3 b4 b5 b6 u1 u2 hpl hpr c6 c9 cu c1d c2l c3r g4 hnd hgi7 hgi8 hpb
    go_enter Tryz.func51, Tryz.ntmps51
    go_wp2_with fail
    refine ND.out.mono ?_
    rintro e w2 ⟨rfl, e2⟩
    have X2 := hid (show Ex F w w2 pa pm (tk s (k0 + 4)) by rw [← tk_tk]; exact X1.out.stay e2.is e2.kept)
    have P2 := hid ((e2.kept.block pb (lt_of_block P1.out) (fun q => by have := FL.out pb q; have := HPB.out; omega)).trans P1.out)
    clear e2 ND X1 P1 hpbw
    obtain ⟨xb, hxb⟩ : ∃ xb, xb = w2.heap.size := ⟨_, rfl⟩
    have HXB := hid hxb
    have hxbw : w2.heap.size = xb := hxb.symm
    have X3 := hid (X2.out.plain ((Kept.refl _ _).alloc (.cells #[.int .i64 (xc : Int), .int .i64 xk, .int .i64 xs] 46)))
    have P3 := hid ((Below.heap_alloc w2 (.cells #[.int .i64 (xc : Int), .int .i64 xk, .int .i64 xs] 46) _ (lt_of_block P2.out)).trans P2.out)
    have Q3 := hid (show (w2.alloc (.cells #[.int .i64 (xc : Int), .int .i64 xk, .int .i64 xs] 46)).heap[xb]? = some (.cells #[.int .i64 (xc : Int), .int .i64 xk, .int .i64 xs] 46) by rw [hxb]; exact heap_alloc_new w2 _)
    have W3 := hid (HW.out.ex X3.out)
    obtain ⟨c0, c1, c2, c3, c4, c5, c6, c7, cf⟩ := W3.out.cells
    clear c1 c2 c3 c4 c5 c6 c7 cf
    have C1 := hid (cellT (n : Int) 0 (Ex.start X3.out.is) (by show s.steps + (k0 + 4) ≤ _; omega))
    rw [show cellS (tk s (k0 + 4)) (n : Int) 0 = u from CU.out] at C1
    have hlt3 := W3.out.lt
    have Hpx := hid (lt_of_block P2.out)
    clear hxb
    go_wp2_with fail
    have NFpb : Hid (¬ F pb) := fun q => by have := FL.out pb q; have := HPB.out; omega
    have NFxb : Hid (¬ F xb) := fun q => by have := FL.out xb q; have := X2.out.kept.size; have := HXB.out; omega
    refine C1.out.mono ?_
    rintro e w4 ⟨rfl, e4⟩
    have X4 := hid (show Ex F w w4 pa pm (tk s (k0 + 4 + 1)) by rw [← tk_tk]; exact X3.out.stay e4.is e4.kept)
    have P4 := hid ((e4.kept.block pb (lt_of_block P3.out) NFpb.out).trans P3.out)
    have Q4 := hid ((e4.kept.block xb (lt_of_block Q3.out) NFxb.out).trans Q3.out)
    have W4 := hid (HW.out.ex X4.out)
    clear e4 C1 X3 P3 Q3 W3
    clear c0
    obtain ⟨c0, _, _, _, _, _, _, _, _⟩ := W4.out.cells
    have C2 := hid (cellT (n : Int) 1 (Ex.start X4.out.is) (by show s.steps + (k0 + 4 + 1) ≤ _; omega))
    rw [show cellS (tk s (k0 + 4 + 1)) (n : Int) 1 = -1 from CD.out] at C2
    go_wp2_with fail
    refine C2.out.mono ?_
    rintro e w5 ⟨rfl, e5⟩
    have X5 := hid (show Ex F w w5 pa pm (tk s (k0 + 4 + 1 + 1)) by rw [← tk_tk]; exact X4.out.stay e5.is e5.kept)
    have P5 := hid ((e5.kept.block pb (lt_of_block P4.out) NFpb.out).trans P4.out)
    have Q5 := hid ((e5.kept.block xb (lt_of_block Q4.out) NFxb.out).trans Q4.out)
    have W5 := hid (HW.out.ex X5.out)
    clear e5 C2 X4 P4 Q4 W4
    rw [show k0 + 4 + 1 + 1 = k0 + 6 from rfl] at X5 W5
    cases top
    · have hbf := BF.out.resolve_left (by decide)
      rw [hbf] at BH
      have z0 : w5.cell? ⟨xb, 0, none⟩ = some (.int .i64 (xc : Int)) := blk_cell Q5.out rfl
      have z1 : w5.cell? ⟨xb, 1, none⟩ = some (.int .i64 xk) := blk_cell Q5.out rfl
      have z2 : w5.cell? ⟨xb, 2, none⟩ = some (.int .i64 xs) := blk_cell Q5.out rfl
      have y0 : w5.cell? ⟨pb, 0, none⟩ = some (.int .i64 (yc : Int)) := blk_cell P5.out rfl
      have y1 : w5.cell? ⟨pb, 1, none⟩ = some (.int .i64 yk) := blk_cell P5.out rfl
      have y2 : w5.cell? ⟨pb, 2, none⟩ = some (.int .i64 ys) := blk_cell P5.out rfl
      clear hbf
      go_wp2_with fail
      refine (BH.out _).mono ?_
      rintro e w6 ⟨rfl, k6⟩
      have X6 := hid (X5.out.plain k6)
      have Q6 := hid ((k6.block xb (lt_of_block Q5.out) (fun e => e)).trans Q5.out)
      have W6 := hid (HW.out.ex X6.out)
      clear k6 X5 P5 Q5 W5 z0 z1 z2 y0 y1 y2 BH
      clear c0
      obtain ⟨c0, _, _, _, _, _, _, _, _⟩ := W6.out.cells
      have hltA := W6.out.lt
      have hxbA := lt_of_block Q6.out
      have z0 : w6.cell? ⟨xb, 0, none⟩ = some (.int .i64 (xc : Int)) := blk_cell Q6.out rfl
      have z1 : w6.cell? ⟨xb, 1, none⟩ = some (.int .i64 xk) := blk_cell Q6.out rfl
      have z2 : w6.cell? ⟨xb, 2, none⟩ = some (.int .i64 xs) := blk_cell Q6.out rfl
      have T1 := hid (fun w1 (k1 : Kept (fun _ => False) w6 w1) => cellT (n : Int) 2 ((Ex.start X6.out.is).plain k1) (by show s.steps + (k0 + 6) ≤ _; omega))
      rw [show cellS (tk s (k0 + 6)) (n : Int) 2 = l.root from CL.out] at T1
      go_wp2_with fail
      go_region_held3 (fun w' => w'.cell? ⟨pw, 0, none⟩ = some (.pointer (some ⟨pa, 0, none⟩)) ∧ w'.cell? ⟨xb, 0, none⟩ = some (.int .i64 (xc : Int)) ∧ w'.cell? ⟨xb, 1, none⟩ = some (.int .i64 xk) ∧ w'.cell? ⟨xb, 2, none⟩ = some (.int .i64 xs)) (first | exact ⟨c0, z0, z1, z2⟩ | (simp [go_sem]; exact ⟨c0, z0, z1, z2⟩))
        (first
          | (go_at_call 44; refine (T1.out _ (by first | exact Kept.refl _ _ | exact (Kept.refl _ _).drew | exact (Kept.refl _ _).drewN _)).mono ?_; rintro e wA ⟨rfl, eA⟩; replace c0 := (eA.kept.cell (p := ⟨pw, 0, none⟩) hltA NFp.out).trans c0; replace z0 := (eA.kept.cell (p := ⟨xb, 0, none⟩) hxbA NFxb.out).trans z0; replace z1 := (eA.kept.cell (p := ⟨xb, 1, none⟩) hxbA NFxb.out).trans z1; replace z2 := (eA.kept.cell (p := ⟨xb, 2, none⟩) hxbA NFxb.out).trans z2; have EA := hid eA; have XA := hid (show Ex F w wA pa pm (tk s (k0 + 6 + 1)) by rw [← tk_tk]; exact X6.out.stay eA.is eA.kept); have WA := hid (HW.out.ex XA.out); have hltB := WA.out.lt; have hxbB := Nat.lt_of_lt_of_le hxbA eA.kept.size; clear eA)
          | (go_at_call 51; refine (IHl.out _ (k0 + 6 + 1) (n : Int) (xc, xk, xs) false WA.out KL.out NL.out UL.out (Or.inr OL.out) (by omega)).mono ?_; rintro e w8 ⟨rfl, k8, hk8, eB⟩; replace c0 := (eB.kept.cell (p := ⟨pw, 0, none⟩) hltB NFp.out).trans c0; replace z0 := (eB.kept.cell (p := ⟨xb, 0, none⟩) hxbB NFxb.out).trans z0; replace z1 := (eB.kept.cell (p := ⟨xb, 1, none⟩) hxbB NFxb.out).trans z1; replace z2 := (eB.kept.cell (p := ⟨xb, 2, none⟩) hxbB NFxb.out).trans z2; have EB := hid eB; clear eB))
      have X8 := hid (XA.out.stay EB.out.is EB.out.kept)
      have Q8 := hid ((EB.out.kept.block xb hxbB NFxb.out).trans ((EA.out.kept.block xb hxbA NFxb.out).trans Q6.out))
      have W8 := hid (HW.out.ex X8.out)
      clear EA EB XA WA hltA hltB hxbA hxbB z0 z1 z2 X6 Q6 W6 T1
      clear c0
      obtain ⟨c0, _, _, _, _, _, _, _, _⟩ := W8.out.cells
      have hltA := W8.out.lt
      have hxbA := lt_of_block Q8.out
      have z0 : w8.cell? ⟨xb, 0, none⟩ = some (.int .i64 (xc : Int)) := blk_cell Q8.out rfl
      have z1 : w8.cell? ⟨xb, 1, none⟩ = some (.int .i64 xk) := blk_cell Q8.out rfl
      have z2 : w8.cell? ⟨xb, 2, none⟩ = some (.int .i64 xs) := blk_cell Q8.out rfl
      have T1 := hid (fun w1 (k1 : Kept (fun _ => False) w8 w1) => cellT (n : Int) 3 ((Ex.start X8.out.is).plain k1) (by show s.steps + (k8) ≤ _; omega))
      rw [show cellS (tk s (k8)) (n : Int) 3 = r.root from CR.out] at T1
      go_wp2_with fail
      go_region_held3 (fun w' => w'.cell? ⟨pw, 0, none⟩ = some (.pointer (some ⟨pa, 0, none⟩)) ∧ w'.cell? ⟨xb, 0, none⟩ = some (.int .i64 (xc : Int)) ∧ w'.cell? ⟨xb, 1, none⟩ = some (.int .i64 xk) ∧ w'.cell? ⟨xb, 2, none⟩ = some (.int .i64 xs)) (first | exact ⟨c0, z0, z1, z2⟩ | (simp [go_sem]; exact ⟨c0, z0, z1, z2⟩))
        (first
          | (go_at_call 44; refine (T1.out _ (by first | exact Kept.refl _ _ | exact (Kept.refl _ _).drew | exact (Kept.refl _ _).drewN _)).mono ?_; rintro e wA ⟨rfl, eA⟩; replace c0 := (eA.kept.cell (p := ⟨pw, 0, none⟩) hltA NFp.out).trans c0; replace z0 := (eA.kept.cell (p := ⟨xb, 0, none⟩) hxbA NFxb.out).trans z0; replace z1 := (eA.kept.cell (p := ⟨xb, 1, none⟩) hxbA NFxb.out).trans z1; replace z2 := (eA.kept.cell (p := ⟨xb, 2, none⟩) hxbA NFxb.out).trans z2; have EA := hid eA; have XA := hid (show Ex F w wA pa pm (tk s (k8 + 1)) by rw [← tk_tk]; exact X8.out.stay eA.is eA.kept); have WA := hid (HW.out.ex XA.out); have hltB := WA.out.lt; have hxbB := Nat.lt_of_lt_of_le hxbA eA.kept.size; clear eA)
          | (go_at_call 51; refine (IHr.out _ (k8 + 1) (n : Int) (xc, xk, xs) false WA.out KR.out NR.out UR.out (Or.inr OR.out) (by omega)).mono ?_; rintro e w10 ⟨rfl, k10, hk10, eB⟩; replace c0 := (eB.kept.cell (p := ⟨pw, 0, none⟩) hltB NFp.out).trans c0; replace z0 := (eB.kept.cell (p := ⟨xb, 0, none⟩) hxbB NFxb.out).trans z0; replace z1 := (eB.kept.cell (p := ⟨xb, 1, none⟩) hxbB NFxb.out).trans z1; replace z2 := (eB.kept.cell (p := ⟨xb, 2, none⟩) hxbB NFxb.out).trans z2; have EB := hid eB; clear eB))
      have X10 := hid (XA.out.stay EB.out.is EB.out.kept)
      have Q10 := hid ((EB.out.kept.block xb hxbB NFxb.out).trans ((EA.out.kept.block xb hxbA NFxb.out).trans Q8.out))
      have W10 := hid (HW.out.ex X10.out)
      clear EA EB XA WA hltA hltB hxbA hxbB z0 z1 z2 X8 Q8 W8 T1
      clear c0
      obtain ⟨va, vc, hvv⟩ := W10.out.l0.form
      obtain ⟨c0, _, _, c3, _, _, _, _, _⟩ := W10.out.cells
      have G := hid (getT (n : Int) 4 (Ex.start X10.out.is) (by show s.steps + k10 ≤ _; omega))
      rw [show getS (tk s k10) (n : Int) 4 = ((r.rank + 1 : Nat) : Int) from G4.out] at G
      rw [hvv] at c3
      have rl := rank_le l
      have rr := rank_le r
      have q1 : decide ((l.rank : Int) < (r.rank : Int)) = false := by simp; omega
      have q1n : decide (l.rank < r.rank) = false := by simp; omega
      have hltC := W10.out.lt
      have q3 : decide ((L0.length : Int) < (l.size : Int) + (r.size : Int) + 1) = false := by simp; omega
      obtain ⟨lr', hlr⟩ : ∃ z : Nat, z = r.rank := ⟨_, rfl⟩
      have HLR := hid hlr
      rw [← hlr] at G q1 q1n rr lr ⊢
      clear hlr
      generalize l.rank = ll at *
      obtain ⟨zl, hzl⟩ : ∃ z, z = l.size := ⟨_, rfl⟩
      obtain ⟨zr, hzr⟩ : ∃ z, z = r.size := ⟨_, rfl⟩
      have HZL := hid hzl
      have HZR := hid hzr
      rw [← hzl, ← hzr] at q3 hsz ⊢
      rw [← hzl] at rl hk8
      rw [← hzr] at rr hk10
      clear hzl hzr
      have lr2 : ¬ ll < lr' := by omega
      have hs1 : zl ≤ 1000 := by omega
      have hs2 : zr ≤ 1000 := by omega
      have hs3 : ll ≤ 1000 := by omega
      go_wp2_with fail
      refine G.out.mono ?_
      rintro e w11 ⟨rfl, e11⟩
      have XE := hid (show Ex F w w11 pa pm (tk s (k10 + 1)) by rw [← tk_tk]; exact X10.out.stay e11.is e11.kept)
      have WE := hid (HW.out.ex XE.out)
      clear c0 c3
      obtain ⟨c0, _, _, c3, _, _, _, _, _⟩ := WE.out.cells
      rw [hvv] at c3
      have hltE := WE.out.lt
      clear e11 G hltC
      go_wp2
      go_ret3
      refine ⟨ret3 ?_ ?_, k10 + 1, ?_, XE.out⟩
      · simp only [Tr.rank]; have := HLR.out; omega
      · have := HZL.out; have := HZR.out; simp only [Tr.size]; omega
      · have := HZL.out; have := HZR.out; simp only [Tr.size]; omega
    · have X6 := X5
      have Q6 := Q5
      have W6 := W5
      obtain ⟨w6, hw6⟩ : ∃ w6, w6 = w5 := ⟨_, rfl⟩
      subst hw6
      clear X5 P5 Q5 W5 BH
      clear c0
      obtain ⟨c0, _, _, _, _, _, _, _, _⟩ := W6.out.cells
      have hltA := W6.out.lt
      have hxbA := lt_of_block Q6.out
      have z0 : w6.cell? ⟨xb, 0, none⟩ = some (.int .i64 (xc : Int)) := blk_cell Q6.out rfl
      have z1 : w6.cell? ⟨xb, 1, none⟩ = some (.int .i64 xk) := blk_cell Q6.out rfl
      have z2 : w6.cell? ⟨xb, 2, none⟩ = some (.int .i64 xs) := blk_cell Q6.out rfl
      have T1 := hid (fun w1 (k1 : Kept (fun _ => False) w6 w1) => cellT (n : Int) 2 ((Ex.start X6.out.is).plain k1) (by show s.steps + (k0 + 6) ≤ _; omega))
      rw [show cellS (tk s (k0 + 6)) (n : Int) 2 = l.root from CL.out] at T1
      go_wp2_with fail
      go_region_held3 (fun w' => w'.cell? ⟨pw, 0, none⟩ = some (.pointer (some ⟨pa, 0, none⟩)) ∧ w'.cell? ⟨xb, 0, none⟩ = some (.int .i64 (xc : Int)) ∧ w'.cell? ⟨xb, 1, none⟩ = some (.int .i64 xk) ∧ w'.cell? ⟨xb, 2, none⟩ = some (.int .i64 xs)) (first | exact ⟨c0, z0, z1, z2⟩ | (simp [go_sem]; exact ⟨c0, z0, z1, z2⟩))
        (first
          | (go_at_call 44; refine (T1.out _ (by first | exact Kept.refl _ _ | exact (Kept.refl _ _).drew | exact (Kept.refl _ _).drewN _)).mono ?_; rintro e wA ⟨rfl, eA⟩; replace c0 := (eA.kept.cell (p := ⟨pw, 0, none⟩) hltA NFp.out).trans c0; replace z0 := (eA.kept.cell (p := ⟨xb, 0, none⟩) hxbA NFxb.out).trans z0; replace z1 := (eA.kept.cell (p := ⟨xb, 1, none⟩) hxbA NFxb.out).trans z1; replace z2 := (eA.kept.cell (p := ⟨xb, 2, none⟩) hxbA NFxb.out).trans z2; have EA := hid eA; have XA := hid (show Ex F w wA pa pm (tk s (k0 + 6 + 1)) by rw [← tk_tk]; exact X6.out.stay eA.is eA.kept); have WA := hid (HW.out.ex XA.out); have hltB := WA.out.lt; have hxbB := Nat.lt_of_lt_of_le hxbA eA.kept.size; clear eA)
          | (go_at_call 51; refine (IHl.out _ (k0 + 6 + 1) (n : Int) (xc, xk, xs) false WA.out KL.out NL.out UL.out (Or.inr OL.out) (by omega)).mono ?_; rintro e w8 ⟨rfl, k8, hk8, eB⟩; replace c0 := (eB.kept.cell (p := ⟨pw, 0, none⟩) hltB NFp.out).trans c0; replace z0 := (eB.kept.cell (p := ⟨xb, 0, none⟩) hxbB NFxb.out).trans z0; replace z1 := (eB.kept.cell (p := ⟨xb, 1, none⟩) hxbB NFxb.out).trans z1; replace z2 := (eB.kept.cell (p := ⟨xb, 2, none⟩) hxbB NFxb.out).trans z2; have EB := hid eB; clear eB))
      have X8 := hid (XA.out.stay EB.out.is EB.out.kept)
      have Q8 := hid ((EB.out.kept.block xb hxbB NFxb.out).trans ((EA.out.kept.block xb hxbA NFxb.out).trans Q6.out))
      have W8 := hid (HW.out.ex X8.out)
      clear EA EB XA WA hltA hltB hxbA hxbB z0 z1 z2 X6 Q6 W6 T1
      clear c0
      obtain ⟨c0, _, _, _, _, _, _, _, _⟩ := W8.out.cells
      have hltA := W8.out.lt
      have hxbA := lt_of_block Q8.out
      have z0 : w8.cell? ⟨xb, 0, none⟩ = some (.int .i64 (xc : Int)) := blk_cell Q8.out rfl
      have z1 : w8.cell? ⟨xb, 1, none⟩ = some (.int .i64 xk) := blk_cell Q8.out rfl
      have z2 : w8.cell? ⟨xb, 2, none⟩ = some (.int .i64 xs) := blk_cell Q8.out rfl
      have T1 := hid (fun w1 (k1 : Kept (fun _ => False) w8 w1) => cellT (n : Int) 3 ((Ex.start X8.out.is).plain k1) (by show s.steps + (k8) ≤ _; omega))
      rw [show cellS (tk s (k8)) (n : Int) 3 = r.root from CR.out] at T1
      go_wp2_with fail
      go_region_held3 (fun w' => w'.cell? ⟨pw, 0, none⟩ = some (.pointer (some ⟨pa, 0, none⟩)) ∧ w'.cell? ⟨xb, 0, none⟩ = some (.int .i64 (xc : Int)) ∧ w'.cell? ⟨xb, 1, none⟩ = some (.int .i64 xk) ∧ w'.cell? ⟨xb, 2, none⟩ = some (.int .i64 xs)) (first | exact ⟨c0, z0, z1, z2⟩ | (simp [go_sem]; exact ⟨c0, z0, z1, z2⟩))
        (first
          | (go_at_call 44; refine (T1.out _ (by first | exact Kept.refl _ _ | exact (Kept.refl _ _).drew | exact (Kept.refl _ _).drewN _)).mono ?_; rintro e wA ⟨rfl, eA⟩; replace c0 := (eA.kept.cell (p := ⟨pw, 0, none⟩) hltA NFp.out).trans c0; replace z0 := (eA.kept.cell (p := ⟨xb, 0, none⟩) hxbA NFxb.out).trans z0; replace z1 := (eA.kept.cell (p := ⟨xb, 1, none⟩) hxbA NFxb.out).trans z1; replace z2 := (eA.kept.cell (p := ⟨xb, 2, none⟩) hxbA NFxb.out).trans z2; have EA := hid eA; have XA := hid (show Ex F w wA pa pm (tk s (k8 + 1)) by rw [← tk_tk]; exact X8.out.stay eA.is eA.kept); have WA := hid (HW.out.ex XA.out); have hltB := WA.out.lt; have hxbB := Nat.lt_of_lt_of_le hxbA eA.kept.size; clear eA)
          | (go_at_call 51; refine (IHr.out _ (k8 + 1) (n : Int) (xc, xk, xs) false WA.out KR.out NR.out UR.out (Or.inr OR.out) (by omega)).mono ?_; rintro e w10 ⟨rfl, k10, hk10, eB⟩; replace c0 := (eB.kept.cell (p := ⟨pw, 0, none⟩) hltB NFp.out).trans c0; replace z0 := (eB.kept.cell (p := ⟨xb, 0, none⟩) hxbB NFxb.out).trans z0; replace z1 := (eB.kept.cell (p := ⟨xb, 1, none⟩) hxbB NFxb.out).trans z1; replace z2 := (eB.kept.cell (p := ⟨xb, 2, none⟩) hxbB NFxb.out).trans z2; have EB := hid eB; clear eB))
      have X10 := hid (XA.out.stay EB.out.is EB.out.kept)
      have Q10 := hid ((EB.out.kept.block xb hxbB NFxb.out).trans ((EA.out.kept.block xb hxbA NFxb.out).trans Q8.out))
      have W10 := hid (HW.out.ex X10.out)
      clear EA EB XA WA hltA hltB hxbA hxbB z0 z1 z2 X8 Q8 W8 T1
      clear c0
      obtain ⟨va, vc, hvv⟩ := W10.out.l0.form
      obtain ⟨c0, _, _, c3, _, _, _, _, _⟩ := W10.out.cells
      have G := hid (getT (n : Int) 4 (Ex.start X10.out.is) (by show s.steps + k10 ≤ _; omega))
      rw [show getS (tk s k10) (n : Int) 4 = ((r.rank + 1 : Nat) : Int) from G4.out] at G
      rw [hvv] at c3
      have rl := rank_le l
      have rr := rank_le r
      have q1 : decide ((l.rank : Int) < (r.rank : Int)) = false := by simp; omega
      have q1n : decide (l.rank < r.rank) = false := by simp; omega
      have hltC := W10.out.lt
      have q3 : decide ((L0.length : Int) < (l.size : Int) + (r.size : Int) + 1) = false := by simp; omega
      obtain ⟨lr', hlr⟩ : ∃ z : Nat, z = r.rank := ⟨_, rfl⟩
      have HLR := hid hlr
      rw [← hlr] at G q1 q1n rr lr ⊢
      clear hlr
      generalize l.rank = ll at *
      obtain ⟨zl, hzl⟩ : ∃ z, z = l.size := ⟨_, rfl⟩
      obtain ⟨zr, hzr⟩ : ∃ z, z = r.size := ⟨_, rfl⟩
      have HZL := hid hzl
      have HZR := hid hzr
      rw [← hzl, ← hzr] at q3 hsz ⊢
      rw [← hzl] at rl hk8
      rw [← hzr] at rr hk10
      clear hzl hzr
      have lr2 : ¬ ll < lr' := by omega
      have hs1 : zl ≤ 1000 := by omega
      have hs2 : zr ≤ 1000 := by omega
      have hs3 : ll ≤ 1000 := by omega
      go_wp2_with fail
      refine G.out.mono ?_
      rintro e w11 ⟨rfl, e11⟩
      have XE := hid (show Ex F w w11 pa pm (tk s (k10 + 1)) by rw [← tk_tk]; exact X10.out.stay e11.is e11.kept)
      have WE := hid (HW.out.ex XE.out)
      clear c0 c3
      obtain ⟨c0, _, _, c3, _, _, _, _, _⟩ := WE.out.cells
      rw [hvv] at c3
      have hltE := WE.out.lt
      clear e11 G hltC
      go_wp2
      go_ret3
      refine ⟨ret3 ?_ ?_, k10 + 1, ?_, XE.out⟩
      · simp only [Tr.rank]; have := HLR.out; omega
      · have := HZL.out; have := HZR.out; simp only [Tr.size]; omega
      · have := HZL.out; have := HZR.out; simp only [Tr.size]; omega

end Go.Proofs.YtnkpopeahmjodaaGreat
