/- The laws' tree, of the first heap. -/
import Derived.Test.YteibfnclillnnabGreatGn
namespace Go.Proofs.YteibfnclillnnabGreat
open Go.ChangeShapes Go.WideShapes Go.ChangeAt Go.RowKit
open Tr

set_option maxHeartbeats 8000000 in
set_option maxRecDepth 100000 in
theorem tree0 {w0 : Fm} {F : Nat → Prop} {pw pa pm : Nat} {v0 v1 : Value} {s : St} {r0 r1 : Int} {L0 L1 : List (Nat × Int × Int)} {nx sp mo : Int} (ok : Ok s) (hl : L0.length ≤ 1000) : ∀ (N : Nat) (b : Bn) (w : World) (k0 : Nat) (u : Int) (y : Nat × Int × Int) (top : Bool), b.k.size < N → b.k.size + 1 ≤ L0.length →
    Wx w0 w F pw pa pm v0 v1 (tk s k0) r0 r1 L0 L1 nx sp mo → Wn s L0 b u → (top = true ∨ ∀ a x, Held s L0 b.i a x → befH x y = false) → s.steps + k0 + (8 + 10 * b.k.size) ≤ 80000000 →
    Calls Tryz.prog 58 #[.pointer (some ⟨pw, 0, none⟩), .int .i64 0, .int .i64 (b.n : Int), .int .i64 u, hv y, .bool top] w fun e w' => e = .returned (.int .i64 ((b.k.size + 1 : Nat) : Int)) ∧ ∃ k, k ≤ k0 + (8 + 10 * b.k.size) ∧ Ex F w w' pa pm (tk s k)
  | 0, b, w, k0, u, y, top => fun h _ _ _ _ _ => absurd h (Nat.not_lt_zero _)
  | N + 1, b, w, k0, u, y, top => by
    intro hN hbl h hk ht hs
    have IH := hid (fun b w k0 u y top => tree0 (w0 := w0) (F := F) (pw := pw) (pa := pa) (pm := pm) (v0 := v0) (v1 := v1) (r0 := r0) (r1 := r1) (L0 := L0) (L1 := L1) (nx := nx) (sp := sp) (mo := mo) ok hl N b w k0 u y top)
    have hr9 : b.rk ≤ 9 := kd_nine hk.kd (by omega)
    obtain ⟨va, vc, hv'⟩ := h.l0.form
    have HV' := hid hv'
    clear hv'
    have KS := hid (kd_size b.k hk.kd)
    have KB := hid (kd_big b.k hk.kd).1
    have KL := hid (kd_len b.k hk.kd).1
    obtain ⟨a, x, hx⟩ := hk.it b.i (by simp [Bn.items])
    have c6 : cellS s (b.n : Int) 6 = (b.i : Int) := cell_nat (j := 6) ok hk.vn.ln (by decide) hk.vn.item hk.vn.li
    have c9 : cellS s (b.i : Int) 9 = (b.n : Int) := cell_nat (j := 9) ok hk.vn.li (by decide) hk.vn.node hk.vn.ln
    have c1d : cellS s (b.n : Int) 1 = b.k.root := root_val (j := 1) ok hk.vn.ln (by decide) hk.vn.down hk.vn.kids
    have c2l : cellS s (b.n : Int) 2 = -1 := cell_neg (j := 2) hk.vn.ln (by decide) hk.left
    have g4 : getS s (b.n : Int) 4 = (b.rk : Int) := (get_nat (j := 4) hk.vn.ln (by decide)).trans hk.vn.rank
    have BF := hid (show top = true ∨ befH x y = false from ht.imp id fun q => q a x hx)
    have hgi7 : getS s (x.1 : Int) 7 = x.2.1 := by rw [hx.2.1]; exact (get_nat (j := 7) hk.vn.li (by decide)).trans hx.2.2.2.1
    have hgi8 : getS s (x.1 : Int) 8 = x.2.2 := by rw [hx.2.1]; exact (get_nat (j := 8) hk.vn.li (by decide)).trans hx.2.2.2.2
    have HW := hid h
    obtain ⟨pb, hpb⟩ : ∃ pb, pb = w.heap.size := ⟨_, rfl⟩
    have HPB := hid hpb
    have W1 := hid (h.plain ((Kept.refl _ _).alloc (.cells #[.int .i64 (y.1 : Int), .int .i64 y.2.1, .int .i64 y.2.2] 36)))
    have ND := hid (node0 W1.out (b.n : Int) a x hx.1 hx.2.2.1 (by rw [show cellS (tk s k0) (b.n : Int) 6 = cellS s (b.n : Int) 6 from rfl, c6, hx.2.1]) (by rw [show cellS (tk s k0) (x.1 : Int) 9 = cellS s (x.1 : Int) 9 from rfl, hx.2.1, c9]) hgi7 hgi8 hl (by show s.steps + k0 ≤ _; omega))
    have P1 := hid (show (w.alloc (.cells #[.int .i64 (y.1 : Int), .int .i64 y.2.1, .int .i64 y.2.2] 36)).heap[pb]? = some (.cells #[.int .i64 (y.1 : Int), .int .i64 y.2.1, .int .i64 y.2.2] 36) by rw [hpb]; exact heap_alloc_new w _)
    have NFp : Hid (¬ F pw) := h.out
    have FL := hid h.is.lt
    have X1 := hid ((Ex.start h.is).plain ((Kept.refl _ _).alloc (.cells #[.int .i64 (y.1 : Int), .int .i64 y.2.1, .int .i64 y.2.2] 36)))
    have hpbw : w.heap.size = pb := hpb.symm
    have CU := hid hk.up
    have CD := hid c1d
    have CL := hid c2l
    have G4 := hid g4
    have HWR := hid hk.kids
    have HX := hid hx
    have OK := hid ok
    have BH := hid (fun w => beforeH x y w)
    have hn1 : ((b.n : Int) == -1) = false := by simp
    obtain ⟨yc, yk, ys⟩ := y
    obtain ⟨xc, xk, xs⟩ := x
    unfold hv at ND BH ⊢
    simp only at ND BH P1 X1 W1
    obtain ⟨rkb, hrkb⟩ : ∃ z, z = b.rk := ⟨_, rfl⟩
    have HRK := hid hrkb
    rw [← hrkb] at hr9 g4 G4
    obtain ⟨n0, hn0⟩ : ∃ z, z = L0.length := ⟨_, rfl⟩
    have HN0 := hid hn0
    obtain ⟨bz, hbz⟩ : ∃ z, z = b.k.size := ⟨_, rfl⟩
    have HBZ := hid hbz
    rw [← hbz] at hbl hN hs ⊢
    rw [← hn0] at hbl hl
    have hrk0 : decide ((rkb : Int) < 0) = false := by simp
    have hrk20 : decide ((20 : Int) < (rkb : Int)) = false := by simp; omega
    have FZ := hid (show ∀ z : Nat, z ≤ bz + 1 → bz + 1 ≤ z → ∃ p q : Nat, wrap64 ((2 : Int) ^ rkb) = (p : Int) ∧ wrap64 ((2 : Int) * 2 ^ rkb) = (q : Int) ∧ q ≤ 1024 ∧ z ≤ n0 ∧ p ≤ z ∧ (z : Int) ≤ (q : Int) - 1 from fun z z1 z2 => sh_facts hr9 (by have h := KS.out; rw [show rkf b.k = rkb from hrkb.symm, ← hbz] at h; omega) (by have h := KB.out; rw [show rkf b.k = rkb from hrkb.symm, ← hbz] at h; omega) (by omega))
    have hrkn : (0 : Int) ≤ (rkb : Int) := by omega
    clear h hk ht hx c6 c9 c1d c2l g4 hgi7 hgi8 hpb hrkb hn0 hbz
    go_enter Tryz.func58, Tryz.ntmps58
    go_wp2_with fail
    refine ND.out.mono ?_
    rintro e w2 ⟨rfl, e2⟩
    have X2 := hid (show Ex F w w2 pa pm (tk s (k0 + 4)) by rw [← tk_tk]; exact X1.out.stay e2.is e2.kept)
    have P2 := hid ((e2.kept.block pb (lt_of_block P1.out) (fun q => by have := FL.out pb q; have := HPB.out; omega)).trans P1.out)
    clear e2 ND X1 P1 hpbw
    obtain ⟨xb, hxb⟩ : ∃ xb, xb = w2.heap.size := ⟨_, rfl⟩
    have HXB := hid hxb
    have hxbw : w2.heap.size = xb := hxb.symm
    have X3 := hid (X2.out.plain ((Kept.refl _ _).alloc (.cells #[.int .i64 (xc : Int), .int .i64 xk, .int .i64 xs] 36)))
    have P3 := hid ((Below.heap_alloc w2 (.cells #[.int .i64 (xc : Int), .int .i64 xk, .int .i64 xs] 36) _ (lt_of_block P2.out)).trans P2.out)
    have Q3 := hid (show (w2.alloc (.cells #[.int .i64 (xc : Int), .int .i64 xk, .int .i64 xs] 36)).heap[xb]? = some (.cells #[.int .i64 (xc : Int), .int .i64 xk, .int .i64 xs] 36) by rw [hxb]; exact heap_alloc_new w2 _)
    have W3 := hid (HW.out.ex X3.out)
    obtain ⟨c0, c1, c2, c3, c4, c5, c6, c7, cf⟩ := W3.out.cells
    clear c1 c2 c3 c4 c5 c6 c7 cf
    have C1 := hid (getT (b.n : Int) 4 (Ex.start X3.out.is) (by show s.steps + (k0 + 4) ≤ _; omega))
    rw [show getS (tk s (k0 + 4)) (b.n : Int) 4 = (rkb : Int) from G4.out] at C1
    have hlt3 := W3.out.lt
    have Hpx := hid (lt_of_block P2.out)
    clear hxb
    go_wp2_with fail
    have NFpb : Hid (¬ F pb) := fun q => by have := FL.out pb q; have := HPB.out; omega
    have NFxb : Hid (¬ F xb) := fun q => by have := FL.out xb q; have := X2.out.kept.size; have := HXB.out; omega
    refine C1.out.mono ?_
    rintro e w4 ⟨rfl, e4⟩
    have X4 := hid (show Ex F w w4 pa pm (tk s (k0 + 4 + 1)) by rw [← tk_tk]; exact X3.out.stay e4.is e4.kept)
    have P4 := hid ((e4.kept.block pb (lt_of_block P3.out) NFpb.out).trans P3.out)
    have Q4 := hid ((e4.kept.block xb (lt_of_block Q3.out) NFxb.out).trans Q3.out)
    have W4 := hid (HW.out.ex X4.out)
    clear e4 C1 X3 P3 Q3 W3
    clear c0
    obtain ⟨c0, _, _, _, _, _, _, _, _⟩ := W4.out.cells
    have C2 := hid (cellT (b.n : Int) 0 (Ex.start X4.out.is) (by show s.steps + (k0 + 4 + 1) ≤ _; omega))
    rw [show cellS (tk s (k0 + 4 + 1)) (b.n : Int) 0 = u from CU.out] at C2
    go_wp2_with fail
    refine C2.out.mono ?_
    rintro e w5 ⟨rfl, e5⟩
    have X5 := hid (show Ex F w w5 pa pm (tk s (k0 + 4 + 1 + 1)) by rw [← tk_tk]; exact X4.out.stay e5.is e5.kept)
    have P5 := hid ((e5.kept.block pb (lt_of_block P4.out) NFpb.out).trans P4.out)
    have Q5 := hid ((e5.kept.block xb (lt_of_block Q4.out) NFxb.out).trans Q4.out)
    have W5 := hid (HW.out.ex X5.out)
    clear e5 C2 X4 P4 Q4 W4
    clear c0
    obtain ⟨c0, _, _, _, _, _, _, _, _⟩ := W5.out.cells
    have C3 := hid (cellT (b.n : Int) 2 (Ex.start X5.out.is) (by show s.steps + (k0 + 4 + 1 + 1) ≤ _; omega))
    rw [show cellS (tk s (k0 + 4 + 1 + 1)) (b.n : Int) 2 = -1 from CL.out] at C3
    go_wp2_with fail
    refine C3.out.mono ?_
    rintro e w6 ⟨rfl, e6⟩
    have X6 := hid (show Ex F w w6 pa pm (tk s (k0 + 4 + 1 + 1 + 1)) by rw [← tk_tk]; exact X5.out.stay e6.is e6.kept)
    have P6 := hid ((e6.kept.block pb (lt_of_block P5.out) NFpb.out).trans P5.out)
    have Q6 := hid ((e6.kept.block xb (lt_of_block Q5.out) NFxb.out).trans Q5.out)
    have W6 := hid (HW.out.ex X6.out)
    clear e6 C3 X5 P5 Q5 W5
    rw [show k0 + 4 + 1 + 1 + 1 = k0 + 7 from rfl] at X6 W6
    -- behind the test: the rest is one
    have REST : Hid (∀ w7 : World, Kept (fun _ => False) w6 w7 → Ex F w w7 pa pm (tk s (k0 + 7)) ∧ w7.heap[xb]? = some (.cells #[.int .i64 (xc : Int), .int .i64 xk, .int .i64 xs] 36)) := hid (fun w7 k7 => ⟨X6.out.plain k7, (k7.block xb (lt_of_block Q6.out) (fun e => e)).trans Q6.out⟩)
    cases top
    · have hbf := BF.out.resolve_left (by decide)
      rw [hbf] at BH
      have z0 : w6.cell? ⟨xb, 0, none⟩ = some (.int .i64 (xc : Int)) := blk_cell Q6.out rfl
      have z1 : w6.cell? ⟨xb, 1, none⟩ = some (.int .i64 xk) := blk_cell Q6.out rfl
      have z2 : w6.cell? ⟨xb, 2, none⟩ = some (.int .i64 xs) := blk_cell Q6.out rfl
      have y0 : w6.cell? ⟨pb, 0, none⟩ = some (.int .i64 (yc : Int)) := blk_cell P6.out rfl
      have y1 : w6.cell? ⟨pb, 1, none⟩ = some (.int .i64 yk) := blk_cell P6.out rfl
      have y2 : w6.cell? ⟨pb, 2, none⟩ = some (.int .i64 ys) := blk_cell P6.out rfl
      clear hbf
      go_wp2_with fail
      refine (BH.out _).mono ?_
      rintro e w7 ⟨rfl, k7⟩
      obtain ⟨x7, q7⟩ := REST.out w7 k7
      have X7 := hid x7
      have Q7 := hid q7
      have W7 := hid (HW.out.ex x7)
      clear k7 x7 q7 X6 P6 Q6 W6 z0 z1 z2 y0 y1 y2 BH REST
      clear c0
      obtain ⟨c0, _, _, _, _, _, _, _, _⟩ := W7.out.cells
      have C4 := hid (cellT (b.n : Int) 1 (Ex.start X7.out.is) (by show s.steps + (k0 + 7) ≤ _; omega))
      rw [show cellS (tk s (k0 + 7)) (b.n : Int) 1 = b.k.root from CD.out] at C4
      go_wp2_with fail
      refine C4.out.mono ?_
      rintro e w8 ⟨rfl, e8⟩
      have X8 := hid (show Ex F w w8 pa pm (tk s (k0 + 8)) by rw [show k0 + 8 = k0 + 7 + 1 from rfl, ← tk_tk]; exact X7.out.stay e8.is e8.kept)
      have Q8 := hid ((e8.kept.block xb (lt_of_block Q7.out) NFxb.out).trans Q7.out)
      clear e8 C4 X7 Q7 W7 c0
      go_wp2_with fail
      go_loopw [16, 17, 18] (fun zv cv iv wr => ∃ (rest : Tr) (k1 i z : Nat), zv = .int .i64 (z : Int) ∧ cv = .int .i64 rest.root ∧ iv = .int .i64 (i : Int) ∧ Hid (Wr s L0 b.n b.i rest) ∧ 1 ≤ z ∧ z + rest.size ≤ bz + 1 ∧ bz + 1 ≤ z + rest.size ∧ rkf rest ≤ rkb ∧ i + rest.rank ≤ 18 ∧ k1 + 10 * rest.size ≤ k0 + 8 + 10 * bz ∧ Hid (Ex F w wr pa pm (tk s k1)) ∧ Hid (wr.heap[xb]? = some (.cells #[.int .i64 (xc : Int), .int .i64 xk, .int .i64 xs] 36))) (fun _ _ iv _ => 45 - (intOf iv).toNat)
      case atStart => exact ⟨b.k, k0 + 8, 0, 1, rfl, rfl, rfl, HWR, Nat.le_refl _, by have := HBZ.out; omega, by have := HBZ.out; omega, by have := HRK.out; simp only [Bn.rk] at this; omega, by have := KL.out; have := HRK.out; simp only [Bn.rk] at this; omega, by have := HBZ.out; omega, X8, Q8⟩
      case round =>
        clear X8 Q8
        obtain ⟨rest, k1, i, z, rfl, rfl, rfl, hw, hz1', hsz, hsz2, hr20, hik, hk1, hE, hQ⟩ := hrel
        cases rest with
        | lf =>
          rw [show lf.root = -1 from rfl]
          simp only [Tr.size] at hsz hsz2 hk1
          obtain ⟨p, q, hp1, hp2, hq1, hz0, hz1, hz2⟩ := FZ.out z hsz hsz2
          have HZ := hid (show z = bz + 1 by omega)
          clear hsz hsz2
          have WR := hid (HW.out.ex hE.out)
          obtain ⟨c0, c1, c2, c3, c4, c5, c6, c7, cf⟩ := WR.out.cells
          rw [HV'.out, ← HN0.out] at c3
          clear c1 c2 c4 c5 c6 c7 cf
          go_wp2
          go_ret
          exact ⟨by rw [HZ.out]; rfl, k1, by omega, hE.out⟩
        | nd c ci kk rr =>
          obtain ⟨p1, p2, p3, p4⟩ := hw.out.parts OK.out
          obtain ⟨q1, q2⟩ := kd_less hw.out.kd
          simp only [Tr.size] at hsz hsz2 hk1
          simp only [Tr.rank] at hik
          rw [show (nd c ci kk rr).root = (c : Int) from rfl]
          obtain ⟨m, hm⟩ : ∃ m, m = rkf kk := ⟨_, rfl⟩
          obtain ⟨y2, hy2⟩ : ∃ y2, y2 = kk.size + 1 := ⟨_, rfl⟩
          have HM := hid hm
          have HY2 := hid hy2
          have WR := hid (HW.out.ex hE.out)
          obtain ⟨c0, _, _, _, _, _, _, _, _⟩ := WR.out.cells
          have G2 := hid (getT (c : Int) 4 (Ex.start hE.out.is) (by show s.steps + k1 ≤ _; omega))
          rw [show getS (tk s k1) (c : Int) 4 = (m : Int) by rw [hm]; exact (get_nat (j := 4) p1.vn.ln (by decide)).trans p1.vn.rank] at G2
          have P1 := hid p1
          have P3 := hid p3
          have P4 := hid p4
          have NX := hid p2
          have hmr : (m : Int) < (rkb : Int) := by omega
          have hrr : rkf rr ≤ rkb := by omega
          have hcn : ((c : Int) == -1) = false := by simp
          have hi60 : (i : Int) < 60 := by omega
          have hwi : IntKind.i64.wrap ((i : Int) + 1) = (i : Int) + 1 := IntWalk.i64_in _ (by omega)
          have hwz : IntKind.i64.wrap ((z : Int) + (y2 : Int)) = ((z + y2 : Nat) : Int) := by rw [IntWalk.i64_in _ (by omega)]; omega
          have hy0 : ((y2 : Int) == 0) = false := by simp; omega
          clear hw p1 p2 p3 p4 q1 q2 hm hy2
          go_wp2_with fail
          refine G2.out.mono ?_
          rintro e w9 ⟨rfl, e9⟩
          have X9 := hid (show Ex F w w9 pa pm (tk s (k1 + 1)) by rw [← tk_tk]; exact hE.out.stay e9.is e9.kept)
          have Q9 := hid ((e9.kept.block xb (lt_of_block hQ.out) NFxb.out).trans hQ.out)
          have W9 := hid (HW.out.ex X9.out)
          clear e9 G2 hE hQ WR c0
          have T := hid (IH.out ⟨c, ci, kk⟩ w9 (k1 + 1) (b.n : Int) (xc, xk, xs) false (by show kk.size < N; omega) (by show kk.size + 1 ≤ _; have := HN0.out; omega) W9.out P1.out (Or.inr fun a' x' hx' => by rw [befH_held hx' HX.out]; exact P3.out) (by show s.steps + (k1 + 1) + (8 + 10 * kk.size) ≤ _; omega))
          rw [show (Bn.k ⟨c, ci, kk⟩).size + 1 = y2 from HY2.out.symm] at T
          unfold hv at T
          have z0 : w9.cell? ⟨xb, 0, none⟩ = some (.int .i64 (xc : Int)) := blk_cell Q9.out rfl
          have z1 : w9.cell? ⟨xb, 1, none⟩ = some (.int .i64 xk) := blk_cell Q9.out rfl
          have z2 : w9.cell? ⟨xb, 2, none⟩ = some (.int .i64 xs) := blk_cell Q9.out rfl
          go_wp2_with fail
          refine T.out.mono ?_
          rintro e w10 ⟨rfl, k9, hk9, e10⟩
          have X10 := hid (X9.out.stay e10.is e10.kept)
          have Q10 := hid ((e10.kept.block xb (lt_of_block Q9.out) NFxb.out).trans Q9.out)
          have W10 := hid (HW.out.ex X10.out)
          have HK9 := hid (show k9 ≤ k1 + 1 + (8 + 10 * kk.size) from hk9)
          clear e10 T X9 Q9 W9 z0 z1 z2 hk9
          obtain ⟨c0, _, _, _, _, _, _, _, _⟩ := W10.out.cells
          have C5 := hid (cellT (c : Int) 3 (Ex.start X10.out.is) (by show s.steps + k9 ≤ _; have := HK9.out; omega))
          rw [show cellS (tk s k9) (c : Int) 3 = rr.root from P4.out] at C5
          go_wp2_with fail
          refine C5.out.mono ?_
          rintro e w11 ⟨rfl, e11⟩
          have X11 := hid (show Ex F w w11 pa pm (tk s (k9 + 1)) by rw [← tk_tk]; exact X10.out.stay e11.is e11.kept)
          have Q11 := hid ((e11.kept.block xb (lt_of_block Q10.out) NFxb.out).trans Q10.out)
          clear e11 C5 X10 Q10 W10 c0
          go_wp2
          go_roundw
          case rel => exact ⟨rr, k9 + 1, i + 1, z + y2, rfl, rfl, by go_num, NX, by omega, by have := HY2.out; omega, by have := HY2.out; omega, hrr, by omega, by have := HK9.out; omega, X11, Q11⟩
          case measure => simp [intOf]; omega
    · clear BH
      have X7 := X6
      have Q7 := Q6
      have W7 := W6
      clear X6 P6 Q6 W6 REST
      clear c0
      obtain ⟨c0, _, _, _, _, _, _, _, _⟩ := W7.out.cells
      have C4 := hid (cellT (b.n : Int) 1 (Ex.start X7.out.is) (by show s.steps + (k0 + 7) ≤ _; omega))
      rw [show cellS (tk s (k0 + 7)) (b.n : Int) 1 = b.k.root from CD.out] at C4
      go_wp2_with fail
      refine C4.out.mono ?_
      rintro e w8 ⟨rfl, e8⟩
      have X8 := hid (show Ex F w w8 pa pm (tk s (k0 + 8)) by rw [show k0 + 8 = k0 + 7 + 1 from rfl, ← tk_tk]; exact X7.out.stay e8.is e8.kept)
      have Q8 := hid ((e8.kept.block xb (lt_of_block Q7.out) NFxb.out).trans Q7.out)
      clear e8 C4 X7 Q7 W7 c0
      go_wp2_with fail
      go_loopw [16, 17, 18] (fun zv cv iv wr => ∃ (rest : Tr) (k1 i z : Nat), zv = .int .i64 (z : Int) ∧ cv = .int .i64 rest.root ∧ iv = .int .i64 (i : Int) ∧ Hid (Wr s L0 b.n b.i rest) ∧ 1 ≤ z ∧ z + rest.size ≤ bz + 1 ∧ bz + 1 ≤ z + rest.size ∧ rkf rest ≤ rkb ∧ i + rest.rank ≤ 18 ∧ k1 + 10 * rest.size ≤ k0 + 8 + 10 * bz ∧ Hid (Ex F w wr pa pm (tk s k1)) ∧ Hid (wr.heap[xb]? = some (.cells #[.int .i64 (xc : Int), .int .i64 xk, .int .i64 xs] 36))) (fun _ _ iv _ => 45 - (intOf iv).toNat)
      case atStart => exact ⟨b.k, k0 + 8, 0, 1, rfl, rfl, rfl, HWR, Nat.le_refl _, by have := HBZ.out; omega, by have := HBZ.out; omega, by have := HRK.out; simp only [Bn.rk] at this; omega, by have := KL.out; have := HRK.out; simp only [Bn.rk] at this; omega, by have := HBZ.out; omega, X8, Q8⟩
      case round =>
        clear X8 Q8
        obtain ⟨rest, k1, i, z, rfl, rfl, rfl, hw, hz1', hsz, hsz2, hr20, hik, hk1, hE, hQ⟩ := hrel
        cases rest with
        | lf =>
          rw [show lf.root = -1 from rfl]
          simp only [Tr.size] at hsz hsz2 hk1
          obtain ⟨p, q, hp1, hp2, hq1, hz0, hz1, hz2⟩ := FZ.out z hsz hsz2
          have HZ := hid (show z = bz + 1 by omega)
          clear hsz hsz2
          have WR := hid (HW.out.ex hE.out)
          obtain ⟨c0, c1, c2, c3, c4, c5, c6, c7, cf⟩ := WR.out.cells
          rw [HV'.out, ← HN0.out] at c3
          clear c1 c2 c4 c5 c6 c7 cf
          go_wp2
          go_ret
          exact ⟨by rw [HZ.out]; rfl, k1, by omega, hE.out⟩
        | nd c ci kk rr =>
          obtain ⟨p1, p2, p3, p4⟩ := hw.out.parts OK.out
          obtain ⟨q1, q2⟩ := kd_less hw.out.kd
          simp only [Tr.size] at hsz hsz2 hk1
          simp only [Tr.rank] at hik
          rw [show (nd c ci kk rr).root = (c : Int) from rfl]
          obtain ⟨m, hm⟩ : ∃ m, m = rkf kk := ⟨_, rfl⟩
          obtain ⟨y2, hy2⟩ : ∃ y2, y2 = kk.size + 1 := ⟨_, rfl⟩
          have HM := hid hm
          have HY2 := hid hy2
          have WR := hid (HW.out.ex hE.out)
          obtain ⟨c0, _, _, _, _, _, _, _, _⟩ := WR.out.cells
          have G2 := hid (getT (c : Int) 4 (Ex.start hE.out.is) (by show s.steps + k1 ≤ _; omega))
          rw [show getS (tk s k1) (c : Int) 4 = (m : Int) by rw [hm]; exact (get_nat (j := 4) p1.vn.ln (by decide)).trans p1.vn.rank] at G2
          have P1 := hid p1
          have P3 := hid p3
          have P4 := hid p4
          have NX := hid p2
          have hmr : (m : Int) < (rkb : Int) := by omega
          have hrr : rkf rr ≤ rkb := by omega
          have hcn : ((c : Int) == -1) = false := by simp
          have hi60 : (i : Int) < 60 := by omega
          have hwi : IntKind.i64.wrap ((i : Int) + 1) = (i : Int) + 1 := IntWalk.i64_in _ (by omega)
          have hwz : IntKind.i64.wrap ((z : Int) + (y2 : Int)) = ((z + y2 : Nat) : Int) := by rw [IntWalk.i64_in _ (by omega)]; omega
          have hy0 : ((y2 : Int) == 0) = false := by simp; omega
          clear hw p1 p2 p3 p4 q1 q2 hm hy2
          go_wp2_with fail
          refine G2.out.mono ?_
          rintro e w9 ⟨rfl, e9⟩
          have X9 := hid (show Ex F w w9 pa pm (tk s (k1 + 1)) by rw [← tk_tk]; exact hE.out.stay e9.is e9.kept)
          have Q9 := hid ((e9.kept.block xb (lt_of_block hQ.out) NFxb.out).trans hQ.out)
          have W9 := hid (HW.out.ex X9.out)
          clear e9 G2 hE hQ WR c0
          have T := hid (IH.out ⟨c, ci, kk⟩ w9 (k1 + 1) (b.n : Int) (xc, xk, xs) false (by show kk.size < N; omega) (by show kk.size + 1 ≤ _; have := HN0.out; omega) W9.out P1.out (Or.inr fun a' x' hx' => by rw [befH_held hx' HX.out]; exact P3.out) (by show s.steps + (k1 + 1) + (8 + 10 * kk.size) ≤ _; omega))
          rw [show (Bn.k ⟨c, ci, kk⟩).size + 1 = y2 from HY2.out.symm] at T
          unfold hv at T
          have z0 : w9.cell? ⟨xb, 0, none⟩ = some (.int .i64 (xc : Int)) := blk_cell Q9.out rfl
          have z1 : w9.cell? ⟨xb, 1, none⟩ = some (.int .i64 xk) := blk_cell Q9.out rfl
          have z2 : w9.cell? ⟨xb, 2, none⟩ = some (.int .i64 xs) := blk_cell Q9.out rfl
          go_wp2_with fail
          refine T.out.mono ?_
          rintro e w10 ⟨rfl, k9, hk9, e10⟩
          have X10 := hid (X9.out.stay e10.is e10.kept)
          have Q10 := hid ((e10.kept.block xb (lt_of_block Q9.out) NFxb.out).trans Q9.out)
          have W10 := hid (HW.out.ex X10.out)
          have HK9 := hid (show k9 ≤ k1 + 1 + (8 + 10 * kk.size) from hk9)
          clear e10 T X9 Q9 W9 z0 z1 z2 hk9
          obtain ⟨c0, _, _, _, _, _, _, _, _⟩ := W10.out.cells
          have C5 := hid (cellT (c : Int) 3 (Ex.start X10.out.is) (by show s.steps + k9 ≤ _; have := HK9.out; omega))
          rw [show cellS (tk s k9) (c : Int) 3 = rr.root from P4.out] at C5
          go_wp2_with fail
          refine C5.out.mono ?_
          rintro e w11 ⟨rfl, e11⟩
          have X11 := hid (show Ex F w w11 pa pm (tk s (k9 + 1)) by rw [← tk_tk]; exact X10.out.stay e11.is e11.kept)
          have Q11 := hid ((e11.kept.block xb (lt_of_block Q10.out) NFxb.out).trans Q10.out)
          clear e11 C5 X10 Q10 W10 c0
          go_wp2
          go_roundw
          case rel => exact ⟨rr, k9 + 1, i + 1, z + y2, rfl, rfl, by go_num, NX, by omega, by have := HY2.out; omega, by have := HY2.out; omega, hrr, by omega, by have := HK9.out; omega, X11, Q11⟩
          case measure => simp [intOf]; omega
end Go.Proofs.YteibfnclillnnabGreat
