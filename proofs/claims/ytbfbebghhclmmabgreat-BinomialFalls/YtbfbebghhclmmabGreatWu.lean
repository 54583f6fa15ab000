/- The laws' tree, of the second heap. -/
import Derived.Test.YtbfbebghhclmmabGreatWj
namespace Go.Proofs.YtbfbebghhclmmabGreat
open Go.ChangeShapes Go.WideShapes Go.ChangeAt Go.RowKit
open Tr

set_option maxHeartbeats 8000000 in
set_option maxRecDepth 100000 in
theorem tree1 {w0 : Fm} {F : Nat → Prop} {pw pa pm : Nat} {v0 v1 : Value} {s : St} {r0 r1 : Int} {L0 L1 : List (Nat × Int × Int)} {nx sp mo : Int} (ok : Ok s) (hns : ¬ Sgl) (hl : L1.length ≤ 1000) : ∀ (N : Nat) (b : Bn) (w : World) (k0 : Nat) (u : Int) (y : Nat × Int × Int) (top : Bool), b.k.size < N → b.rk ≤ 20 →
    Wx w0 w F pw pa pm v0 v1 (tk s k0) r0 r1 L0 L1 nx sp mo → Wn s L1 b u → (top = true ∨ ∀ a x, Held s L1 b.i a x → befH x y = false) → s.steps + k0 + (8 + 9 * b.k.size) ≤ 80000000 →
    Calls Tryz.prog 54 #[.pointer (some ⟨pw, 0, none⟩), .int .i64 1, .int .i64 (b.n : Int), .int .i64 (b.rk : Int), .int .i64 u, hv y, .bool top] w fun e w' => e = .returned (.bool true) ∧ ∃ k, k ≤ k0 + (8 + 9 * b.k.size) ∧ Ex F w w' pa pm (tk s k)
  | 0, b, w, k0, u, y, top => fun h _ _ _ _ _ => absurd h (Nat.not_lt_zero _)
  | N + 1, b, w, k0, u, y, top => fun hN hrk h hk ht hs => by
    have IH := hid (fun b w k0 u y top => tree1 (w0 := w0) (F := F) (pw := pw) (pa := pa) (pm := pm) (v0 := v0) (v1 := v1) (r0 := r0) (r1 := r1) (L0 := L0) (L1 := L1) (nx := nx) (sp := sp) (mo := mo) ok hns hl N b w k0 u y top)
    obtain ⟨a, x, hx⟩ := hk.it b.i (by simp [Bn.items])
    have c6 : cellS s (b.n : Int) 6 = (b.i : Int) := cell_nat (j := 6) ok hk.vn.ln (by decide) hk.vn.item hk.vn.li
    have c9 : cellS s (b.i : Int) 9 = (b.n : Int) := cell_nat (j := 9) ok hk.vn.li (by decide) hk.vn.node hk.vn.ln
    have c1d : cellS s (b.n : Int) 1 = b.k.root := root_val (j := 1) ok hk.vn.ln (by decide) hk.vn.down hk.vn.kids
    have c2l : cellS s (b.n : Int) 2 = -1 := cell_neg (j := 2) hk.vn.ln (by decide) hk.left
    have g4 : getS s (b.n : Int) 4 = (b.rk : Int) := (get_nat (j := 4) hk.vn.ln (by decide)).trans hk.vn.rank
    have BF := hid (show top = true ∨ befH x y = false from ht.imp id fun q => q a x hx)
    have hgi7 : getS s (x.1 : Int) 7 = x.2.1 := by rw [hx.2.1]; exact (get_nat (j := 7) hk.vn.li (by decide)).trans hx.2.2.2.1
    have hgi8 : getS s (x.1 : Int) 8 = x.2.2 := by rw [hx.2.1]; exact (get_nat (j := 8) hk.vn.li (by decide)).trans hx.2.2.2.2
    have HW := hid h
    obtain ⟨pb, hpb⟩ : ∃ pb, pb = w.heap.size := ⟨_, rfl⟩
    have HPB := hid hpb
    have W1 := hid (h.plain ((Kept.refl _ _).alloc (.cells #[.int .i64 (y.1 : Int), .int .i64 y.2.1, .int .i64 y.2.2] 36)))
    have ND := hid (node1 W1.out (b.n : Int) a x hx.1 hx.2.2.1 (by rw [show cellS (tk s k0) (b.n : Int) 6 = cellS s (b.n : Int) 6 from rfl, c6, hx.2.1]) (by rw [show cellS (tk s k0) (x.1 : Int) 9 = cellS s (x.1 : Int) 9 from rfl, hx.2.1, c9]) hgi7 hgi8 hl (by show s.steps + k0 ≤ _; omega))
    have P1 := hid (show (w.alloc (.cells #[.int .i64 (y.1 : Int), .int .i64 y.2.1, .int .i64 y.2.2] 36)).heap[pb]? = some (.cells #[.int .i64 (y.1 : Int), .int .i64 y.2.1, .int .i64 y.2.2] 36) by rw [hpb]; exact heap_alloc_new w _)
    have NFp : Hid (¬ F pw) := h.out
    have FL := hid h.is.lt
    have X1 := hid ((Ex.start h.is).plain ((Kept.refl _ _).alloc (.cells #[.int .i64 (y.1 : Int), .int .i64 y.2.1, .int .i64 y.2.2] 36)))
    have hpbw : w.heap.size = pb := hpb.symm
    have CU := hid hk.up
    have CD := hid c1d
    have CL := hid c2l
    have G4 := hid g4
    have HWR := hid hk.kids
    have HX := hid hx
    have OK := hid ok
    have HNS := hid hns
    have BH := hid (fun w => beforeH x y w)
    have hn1 : ((b.n : Int) == -1) = false := by simp
    obtain ⟨yc, yk, ys⟩ := y
    obtain ⟨xc, xk, xs⟩ := x
    unfold hv at ND BH ⊢
    simp only at ND BH P1 X1 W1
    obtain ⟨rkb, hrkb⟩ : ∃ z, z = b.rk := ⟨_, rfl⟩
    have HRK := hid hrkb
    rw [← hrkb] at hrk g4 G4 ⊢
    clear h hk ht hx c6 c9 c1d c2l g4 hgi7 hgi8 hpb hns hrkb
    go_enter Tryz.func54, Tryz.ntmps54
    go_wp2_with fail
    refine ND.out.mono ?_
    rintro e w2 ⟨rfl, e2⟩
    have X2 := hid (show Ex F w w2 pa pm (tk s (k0 + 4)) by rw [← tk_tk]; exact X1.out.stay e2.is e2.kept)
    have P2 := hid ((e2.kept.block pb (lt_of_block P1.out) (fun q => by have := FL.out pb q; have := HPB.out; omega)).trans P1.out)
    clear e2 ND X1 P1 hpbw
    obtain ⟨xb, hxb⟩ : ∃ xb, xb = w2.heap.size := ⟨_, rfl⟩
    have HXB := hid hxb
    have hxbw : w2.heap.size = xb := hxb.symm
    have X3 := hid (X2.out.plain ((Kept.refl _ _).alloc (.cells #[.int .i64 (xc : Int), .int .i64 xk, .int .i64 xs] 36)))
    have P3 := hid ((Below.heap_alloc w2 (.cells #[.int .i64 (xc : Int), .int .i64 xk, .int .i64 xs] 36) _ (lt_of_block P2.out)).trans P2.out)
    have Q3 := hid (show (w2.alloc (.cells #[.int .i64 (xc : Int), .int .i64 xk, .int .i64 xs] 36)).heap[xb]? = some (.cells #[.int .i64 (xc : Int), .int .i64 xk, .int .i64 xs] 36) by rw [hxb]; exact heap_alloc_new w2 _)
    have W3 := hid (HW.out.ex X3.out)
    obtain ⟨c0, c1, c2, c3, c4, c5, c6, c7, cf⟩ := W3.out.cells
    clear c1 c2 c3 c4 c5 c6 c7 cf
    have C1 := hid (getT (b.n : Int) 4 (Ex.start X3.out.is) (by show s.steps + (k0 + 4) ≤ _; omega))
    rw [show getS (tk s (k0 + 4)) (b.n : Int) 4 = (rkb : Int) from G4.out] at C1
    have hlt3 := W3.out.lt
    have Hpx := hid (lt_of_block P2.out)
    clear hxb
    go_wp2_with fail
    have NFpb : Hid (¬ F pb) := fun q => by have := FL.out pb q; have := HPB.out; omega
    have NFxb : Hid (¬ F xb) := fun q => by have := FL.out xb q; have := X2.out.kept.size; have := HXB.out; omega
    refine C1.out.mono ?_
    rintro e w4 ⟨rfl, e4⟩
    have X4 := hid (show Ex F w w4 pa pm (tk s (k0 + 4 + 1)) by rw [← tk_tk]; exact X3.out.stay e4.is e4.kept)
    have P4 := hid ((e4.kept.block pb (lt_of_block P3.out) NFpb.out).trans P3.out)
    have Q4 := hid ((e4.kept.block xb (lt_of_block Q3.out) NFxb.out).trans Q3.out)
    have W4 := hid (HW.out.ex X4.out)
    clear e4 C1 X3 P3 Q3 W3
    clear c0
    obtain ⟨c0, _, _, _, _, _, _, _, _⟩ := W4.out.cells
    have C2 := hid (cellT (b.n : Int) 0 (Ex.start X4.out.is) (by show s.steps + (k0 + 4 + 1) ≤ _; omega))
    rw [show cellS (tk s (k0 + 4 + 1)) (b.n : Int) 0 = u from CU.out] at C2
    go_wp2_with fail
    refine C2.out.mono ?_
    rintro e w5 ⟨rfl, e5⟩
    have X5 := hid (show Ex F w w5 pa pm (tk s (k0 + 4 + 1 + 1)) by rw [← tk_tk]; exact X4.out.stay e5.is e5.kept)
    have P5 := hid ((e5.kept.block pb (lt_of_block P4.out) NFpb.out).trans P4.out)
    have Q5 := hid ((e5.kept.block xb (lt_of_block Q4.out) NFxb.out).trans Q4.out)
    have W5 := hid (HW.out.ex X5.out)
    clear e5 C2 X4 P4 Q4 W4
    clear c0
    obtain ⟨c0, _, _, _, _, _, _, _, _⟩ := W5.out.cells
    have C3 := hid (cellT (b.n : Int) 2 (Ex.start X5.out.is) (by show s.steps + (k0 + 4 + 1 + 1) ≤ _; omega))
    rw [show cellS (tk s (k0 + 4 + 1 + 1)) (b.n : Int) 2 = -1 from CL.out] at C3
    go_wp2_with fail
    refine C3.out.mono ?_
    rintro e w6 ⟨rfl, e6⟩
    have X6 := hid (show Ex F w w6 pa pm (tk s (k0 + 4 + 1 + 1 + 1)) by rw [← tk_tk]; exact X5.out.stay e6.is e6.kept)
    have P6 := hid ((e6.kept.block pb (lt_of_block P5.out) NFpb.out).trans P5.out)
    have Q6 := hid ((e6.kept.block xb (lt_of_block Q5.out) NFxb.out).trans Q5.out)
    have W6 := hid (HW.out.ex X6.out)
    clear e6 C3 X5 P5 Q5 W5
    rw [show k0 + 4 + 1 + 1 + 1 = k0 + 7 from rfl] at X6 W6
    -- behind the test: the rest is one
    have REST : Hid (∀ w7 : World, Kept (fun _ => False) w6 w7 → Ex F w w7 pa pm (tk s (k0 + 7)) ∧ w7.heap[xb]? = some (.cells #[.int .i64 (xc : Int), .int .i64 xk, .int .i64 xs] 36)) := hid (fun w7 k7 => ⟨X6.out.plain k7, (k7.block xb (lt_of_block Q6.out) (fun e => e)).trans Q6.out⟩)
    cases top
    · have hbf := BF.out.resolve_left (by decide)
      rw [hbf] at BH
      have z0 : w6.cell? ⟨xb, 0, none⟩ = some (.int .i64 (xc : Int)) := blk_cell Q6.out rfl
      have z1 : w6.cell? ⟨xb, 1, none⟩ = some (.int .i64 xk) := blk_cell Q6.out rfl
      have z2 : w6.cell? ⟨xb, 2, none⟩ = some (.int .i64 xs) := blk_cell Q6.out rfl
      have y0 : w6.cell? ⟨pb, 0, none⟩ = some (.int .i64 (yc : Int)) := blk_cell P6.out rfl
      have y1 : w6.cell? ⟨pb, 1, none⟩ = some (.int .i64 yk) := blk_cell P6.out rfl
      have y2 : w6.cell? ⟨pb, 2, none⟩ = some (.int .i64 ys) := blk_cell P6.out rfl
      clear hbf
      go_wp2_with fail
      refine (BH.out _).mono ?_
      rintro e w7 ⟨rfl, k7⟩
      obtain ⟨x7, q7⟩ := REST.out w7 k7
      have X7 := hid x7
      have Q7 := hid q7
      have W7 := hid (HW.out.ex x7)
      clear k7 x7 q7 X6 P6 Q6 W6 z0 z1 z2 y0 y1 y2 BH REST
      clear c0
      obtain ⟨c0, _, _, _, _, _, _, _, _⟩ := W7.out.cells
      have C4 := hid (cellT (b.n : Int) 1 (Ex.start X7.out.is) (by show s.steps + (k0 + 7) ≤ _; omega))
      rw [show cellS (tk s (k0 + 7)) (b.n : Int) 1 = b.k.root from CD.out] at C4
      go_wp2_with fail
      refine C4.out.mono ?_
      rintro e w8 ⟨rfl, e8⟩
      have X8 := hid (show Ex F w w8 pa pm (tk s (k0 + 8)) by rw [show k0 + 8 = k0 + 7 + 1 from rfl, ← tk_tk]; exact X7.out.stay e8.is e8.kept)
      have Q8 := hid ((e8.kept.block xb (lt_of_block Q7.out) NFxb.out).trans Q7.out)
      clear e8 C4 X7 Q7 W7 c0
      have hwr : IntKind.i64.wrap ((rkb : Int) - 1) = (rkb : Int) - 1 := IntWalk.i64_in _ (by omega)
      go_wp2_with fail
      go_loopw [17, 18] (fun cv kv wr => ∃ (rest : Tr) (k1 : Nat), cv = .int .i64 rest.root ∧ kv = .int .i64 ((rkf rest : Int) - 1) ∧ Hid (Wr s L1 b.n b.i rest) ∧ rest.size ≤ b.k.size ∧ rkf rest ≤ 20 ∧ k1 + 9 * rest.size ≤ k0 + 8 + 9 * b.k.size ∧ Hid (Ex F w wr pa pm (tk s k1)) ∧ Hid (wr.heap[xb]? = some (.cells #[.int .i64 (xc : Int), .int .i64 xk, .int .i64 xs] 36))) (fun _ kv _ => (intOf kv + 1).toNat)
      case atStart => exact ⟨b.k, k0 + 8, rfl, by rw [HRK.out]; rfl, HWR, Nat.le_refl _, by have := HRK.out; simp only [Bn.rk] at this; omega, by omega, X8, Q8⟩
      case round =>
        clear X8 Q8 hwr
        obtain ⟨rest, k1, rfl, rfl, hw, hsz, hr20, hk1, hE, hQ⟩ := hrel
        cases rest with
        | lf =>
          rw [show ((rkf lf : Nat) : Int) - 1 = -1 from rfl, show lf.root = -1 from rfl]
          go_wp2
          go_ret
          exact ⟨rfl, k1, by simp only [Tr.size] at hk1; omega, hE.out⟩
        | nd c ci kk rr =>
          obtain ⟨p1, p2, p3, p4⟩ := hw.out.parts OK.out
          have hlink : rkf kk = rkf rr := hw.out.kd.1.resolve_right fun z => HNS.out z.1
          have hrk1 : rkf (nd c ci kk rr) = rkf rr + 1 := rkf_link hlink
          obtain ⟨m, hm⟩ : ∃ m, m = rkf rr := ⟨_, rfl⟩
          have HM := hid hm
          have hm20 : m ≤ 20 := by omega
          rw [show ((rkf (nd c ci kk rr) : Nat) : Int) - 1 = (m : Int) by rw [hrk1, hm]; omega, show (nd c ci kk rr).root = (c : Int) from rfl]
          simp only [Tr.size] at hsz hk1
          have WR := hid (HW.out.ex hE.out)
          have T := hid (IH.out ⟨c, ci, kk⟩ wr k1 (b.n : Int) (xc, xk, xs) false (by show kk.size < N; omega) (by show rkf kk ≤ 20; omega) WR.out p1 (Or.inr fun a' x' hx' => by rw [befH_held hx' HX.out]; exact p3) (by show s.steps + k1 + (8 + 9 * kk.size) ≤ _; omega))
          rw [show (Bn.rk ⟨c, ci, kk⟩ : Nat) = m by show rkf kk = m; rw [hlink, hm]] at T
          unfold hv at T
          have P4 := hid p4
          have NX := hid p2
          have z0 : wr.cell? ⟨xb, 0, none⟩ = some (.int .i64 (xc : Int)) := blk_cell hQ.out rfl
          have z1 : wr.cell? ⟨xb, 1, none⟩ = some (.int .i64 xk) := blk_cell hQ.out rfl
          have z2 : wr.cell? ⟨xb, 2, none⟩ = some (.int .i64 xs) := blk_cell hQ.out rfl
          have hcn : ((c : Int) == -1) = false := by simp
          have hm0 : 0 ≤ (m : Int) := by omega
          have hwm : IntKind.i64.wrap ((m : Int) - 1) = (m : Int) - 1 := IntWalk.i64_in _ (by omega)
          clear hw p1 p2 p3 p4 hlink hrk1 hm
          go_wp2_with fail
          refine T.out.mono ?_
          rintro e w9 ⟨rfl, k9, hk9, e9⟩
          have X9 := hid (hE.out.stay e9.is e9.kept)
          have Q9 := hid ((e9.kept.block xb (lt_of_block hQ.out) NFxb.out).trans hQ.out)
          have W9 := hid (HW.out.ex X9.out)
          clear e9 T hE hQ WR z0 z1 z2
          obtain ⟨c0, _, _, _, _, _, _, _, _⟩ := W9.out.cells
          have C5 := hid (cellT (c : Int) 3 (Ex.start X9.out.is) (by show s.steps + k9 ≤ _; omega))
          rw [show cellS (tk s k9) (c : Int) 3 = rr.root from P4.out] at C5
          go_wp2_with fail
          refine C5.out.mono ?_
          rintro e w10 ⟨rfl, e10⟩
          have X10 := hid (show Ex F w w10 pa pm (tk s (k9 + 1)) by rw [← tk_tk]; exact X9.out.stay e10.is e10.kept)
          have Q10 := hid ((e10.kept.block xb (lt_of_block Q9.out) NFxb.out).trans Q9.out)
          clear e10 C5 X9 Q9 W9 c0
          go_wp2
          go_roundw
          case rel => exact ⟨rr, k9 + 1, rfl, by rw [← HM.out], NX, by omega, by rw [← HM.out]; omega, by omega, X10, Q10⟩
          case measure => simp [intOf] <;> omega
    · clear BH
      have X7 := X6
      have Q7 := Q6
      have W7 := W6
      clear X6 P6 Q6 W6 REST
      clear c0
      obtain ⟨c0, _, _, _, _, _, _, _, _⟩ := W7.out.cells
      have C4 := hid (cellT (b.n : Int) 1 (Ex.start X7.out.is) (by show s.steps + (k0 + 7) ≤ _; omega))
      rw [show cellS (tk s (k0 + 7)) (b.n : Int) 1 = b.k.root from CD.out] at C4
      go_wp2_with fail
      refine C4.out.mono ?_
      rintro e w8 ⟨rfl, e8⟩
      have X8 := hid (show Ex F w w8 pa pm (tk s (k0 + 8)) by rw [show k0 + 8 = k0 + 7 + 1 from rfl, ← tk_tk]; exact X7.out.stay e8.is e8.kept)
      have Q8 := hid ((e8.kept.block xb (lt_of_block Q7.out) NFxb.out).trans Q7.out)
      clear e8 C4 X7 Q7 W7 c0
      have hwr : IntKind.i64.wrap ((rkb : Int) - 1) = (rkb : Int) - 1 := IntWalk.i64_in _ (by omega)
      go_wp2_with fail
      go_loopw [17, 18] (fun cv kv wr => ∃ (rest : Tr) (k1 : Nat), cv = .int .i64 rest.root ∧ kv = .int .i64 ((rkf rest : Int) - 1) ∧ Hid (Wr s L1 b.n b.i rest) ∧ rest.size ≤ b.k.size ∧ rkf rest ≤ 20 ∧ k1 + 9 * rest.size ≤ k0 + 8 + 9 * b.k.size ∧ Hid (Ex F w wr pa pm (tk s k1)) ∧ Hid (wr.heap[xb]? = some (.cells #[.int .i64 (xc : Int), .int .i64 xk, .int .i64 xs] 36))) (fun _ kv _ => (intOf kv + 1).toNat)
      case atStart => exact ⟨b.k, k0 + 8, rfl, by rw [HRK.out]; rfl, HWR, Nat.le_refl _, by have := HRK.out; simp only [Bn.rk] at this; omega, by omega, X8, Q8⟩
      case round =>
        clear X8 Q8 hwr
        obtain ⟨rest, k1, rfl, rfl, hw, hsz, hr20, hk1, hE, hQ⟩ := hrel
        cases rest with
        | lf =>
          rw [show ((rkf lf : Nat) : Int) - 1 = -1 from rfl, show lf.root = -1 from rfl]
          go_wp2
          go_ret
          exact ⟨rfl, k1, by simp only [Tr.size] at hk1; omega, hE.out⟩
        | nd c ci kk rr =>
          obtain ⟨p1, p2, p3, p4⟩ := hw.out.parts OK.out
          have hlink : rkf kk = rkf rr := hw.out.kd.1.resolve_right fun z => HNS.out z.1
          have hrk1 : rkf (nd c ci kk rr) = rkf rr + 1 := rkf_link hlink
          obtain ⟨m, hm⟩ : ∃ m, m = rkf rr := ⟨_, rfl⟩
          have HM := hid hm
          have hm20 : m ≤ 20 := by omega
          rw [show ((rkf (nd c ci kk rr) : Nat) : Int) - 1 = (m : Int) by rw [hrk1, hm]; omega, show (nd c ci kk rr).root = (c : Int) from rfl]
          simp only [Tr.size] at hsz hk1
          have WR := hid (HW.out.ex hE.out)
          have T := hid (IH.out ⟨c, ci, kk⟩ wr k1 (b.n : Int) (xc, xk, xs) false (by show kk.size < N; omega) (by show rkf kk ≤ 20; omega) WR.out p1 (Or.inr fun a' x' hx' => by rw [befH_held hx' HX.out]; exact p3) (by show s.steps + k1 + (8 + 9 * kk.size) ≤ _; omega))
          rw [show (Bn.rk ⟨c, ci, kk⟩ : Nat) = m by show rkf kk = m; rw [hlink, hm]] at T
          unfold hv at T
          have P4 := hid p4
          have NX := hid p2
          have z0 : wr.cell? ⟨xb, 0, none⟩ = some (.int .i64 (xc : Int)) := blk_cell hQ.out rfl
          have z1 : wr.cell? ⟨xb, 1, none⟩ = some (.int .i64 xk) := blk_cell hQ.out rfl
          have z2 : wr.cell? ⟨xb, 2, none⟩ = some (.int .i64 xs) := blk_cell hQ.out rfl
          have hcn : ((c : Int) == -1) = false := by simp
          have hm0 : 0 ≤ (m : Int) := by omega
          have hwm : IntKind.i64.wrap ((m : Int) - 1) = (m : Int) - 1 := IntWalk.i64_in _ (by omega)
          clear hw p1 p2 p3 p4 hlink hrk1 hm
          go_wp2_with fail
          refine T.out.mono ?_
          rintro e w9 ⟨rfl, k9, hk9, e9⟩
          have X9 := hid (hE.out.stay e9.is e9.kept)
          have Q9 := hid ((e9.kept.block xb (lt_of_block hQ.out) NFxb.out).trans hQ.out)
          have W9 := hid (HW.out.ex X9.out)
          clear e9 T hE hQ WR z0 z1 z2
          obtain ⟨c0, _, _, _, _, _, _, _, _⟩ := W9.out.cells
          have C5 := hid (cellT (c : Int) 3 (Ex.start X9.out.is) (by show s.steps + k9 ≤ _; omega))
          rw [show cellS (tk s k9) (c : Int) 3 = rr.root from P4.out] at C5
          go_wp2_with fail
          refine C5.out.mono ?_
          rintro e w10 ⟨rfl, e10⟩
          have X10 := hid (show Ex F w w10 pa pm (tk s (k9 + 1)) by rw [← tk_tk]; exact X9.out.stay e10.is e10.kept)
          have Q10 := hid ((e10.kept.block xb (lt_of_block Q9.out) NFxb.out).trans Q9.out)
          clear e10 C5 X9 Q9 W9 c0
          go_wp2
          go_roundw
          case rel => exact ⟨rr, k9 + 1, rfl, by rw [← HM.out], NX, by omega, by rw [← HM.out]; omega, by omega, X10, Q10⟩
          case measure => simp [intOf] <;> omega
end Go.Proofs.YtbfbebghhclmmabGreat
