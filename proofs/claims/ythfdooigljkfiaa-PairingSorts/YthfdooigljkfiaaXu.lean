/- The laws' tree, heap 0. -/
import Derived.Test.YthfdooigljkfiaaGi
namespace Go.Proofs.Ythfdooigljkfiaa
open Go.ChangeShapes Go.WideShapes Go.ChangeAt Go.RowKit
open Tr

set_option maxHeartbeats 8000000 in
set_option maxRecDepth 100000 in
theorem tree0 {w0 : Fm} {F : Nat → Prop} {pw pa pm : Nat} {v0 v1 : Value} {s : St} {r0 r1 : Int} {L0 L1 : List (Nat × Int × Int)} {nx sp mo : Int} (ok : Ok s) (hl : L0.length ≤ 1000) : ∀ (N : Nat) (n i : Nat) (k r : Tr) (w : World) (k0 : Nat) (up q : Int) (y : Nat × Int × Int) (top : Bool), k.size < N → Vp (LS s) (hasS s) up q (nd n i k r) → Hu (befF (hasS s)) i k → (∀ j, j = i ∨ j ∈ k.items → ∃ a x, Held s L0 j a x) → k.size + 1 ≤ L0.length → Lkd s up →
    Wx w0 w F pw pa pm v0 v1 (tk s k0) r0 r1 L0 L1 nx sp mo → (top = true ∨ ∀ a x, Held s L0 i a x → befH x y = false) → s.steps + k0 + 8 * (k.size + 1) ≤ 80000000 →
    Calls Try.prog 54 #[.pointer (some ⟨pw, 0, none⟩), .int .i64 0, .int .i64 (n : Int), .int .i64 up, hv y, .bool top] w fun e w' => e = .returned (.int .i64 ((k.size + 1 : Nat) : Int)) ∧ ∃ k', k' + 2 ≤ k0 + 8 * (k.size + 1) ∧ Ex F w w' pa pm (tk s k')
  | 0, n, i, k, r, w, k0, up, q, y, top => fun h _ _ _ _ _ _ _ _ => absurd h (Nat.not_lt_zero _)
  | N + 1, n, i, k, r, w, k0, up, q, y, top => by
    intro hN hvp hhu hit hln hup h ht0 hs
    have IH := hid (fun n i k r w k0 up q y top => tree0 (w0 := w0) (F := F) (pw := pw) (pa := pa) (pm := pm) (v0 := v0) (v1 := v1) (r0 := r0) (r1 := r1) (L0 := L0) (L1 := L1) (nx := nx) (sp := sp) (mo := mo) ok hl N n i k r w k0 up q y top)
    obtain ⟨va, vc, hv'⟩ := h.l0.form
    have HV' := hid hv'
    clear hv'
    obtain ⟨a, x, hx⟩ := hit i (Or.inl rfl)
    obtain ⟨⟨ln, li, f0, f1, f2, f3, f6, f9⟩, vk, vr⟩ := hvp
    have OK := hid ok
    have LN := hid ln
    have VK := hid vk
    have HU := hid hhu
    have IT := hid (show ∀ j, j ∈ k.items → ∃ a x, Held s L0 j a x from fun j hj => hit j (Or.inr hj))
    have BF := hid (show top = true ∨ befH x y = false from ht0.imp id fun q => q a x hx)
    have hgi7 : getS s (x.1 : Int) 7 = x.2.1 := by rw [hx.2.1]; exact (get_nat (j := 7) li (by decide)).trans hx.2.2.2.1
    have hgi8 : getS s (x.1 : Int) 8 = x.2.2 := by rw [hx.2.1]; exact (get_nat (j := 8) li (by decide)).trans hx.2.2.2.2
    have c6' : cellS s (n : Int) 6 = (i : Int) := cell_nat (j := 6) ok ln (by decide) f6 li
    have c9' : cellS s (i : Int) 9 = (n : Int) := cell_nat (j := 9) ok li (by decide) f9 ln
    have c0' : cellS s (n : Int) 0 = up := cell_lkd (j := 0) ok ln (by decide) f0 hup
    have c1' : cellS s (n : Int) 1 = k.root := cell_lkd (j := 1) ok ln (by decide) f1 (root_lkd vk)
    have HW := hid h
    obtain ⟨pb, hpb⟩ : ∃ pb, pb = w.heap.size := ⟨_, rfl⟩
    have HPB := hid hpb
    have W1 := hid (h.plain ((Kept.refl _ _).alloc (.cells #[.int .i64 (y.1 : Int), .int .i64 y.2.1, .int .i64 y.2.2] 55)))
    have ND := hid (node0 W1.out (n : Int) a x hx.1 hx.2.2.1 (by rw [show cellS (tk s k0) (n : Int) 6 = cellS s (n : Int) 6 from rfl, c6', hx.2.1]) (by rw [show cellS (tk s k0) (x.1 : Int) 9 = cellS s (x.1 : Int) 9 from rfl, hx.2.1, c9']) hgi7 hgi8 hl (by show s.steps + k0 ≤ _; omega))
    have P1 := hid (show (w.alloc (.cells #[.int .i64 (y.1 : Int), .int .i64 y.2.1, .int .i64 y.2.2] 55)).heap[pb]? = some (.cells #[.int .i64 (y.1 : Int), .int .i64 y.2.1, .int .i64 y.2.2] 55) by rw [hpb]; exact heap_alloc_new w _)
    have NFp : Hid (¬ F pw) := h.out
    have FL := hid h.is.lt
    have X1 := hid ((Ex.start h.is).plain ((Kept.refl _ _).alloc (.cells #[.int .i64 (y.1 : Int), .int .i64 y.2.1, .int .i64 y.2.2] 55)))
    have hpbw : w.heap.size = pb := hpb.symm
    have CU := hid c0'
    have CD := hid c1'
    have HX := hid hx
    have BH := hid (fun w => beforeH x y w)
    obtain ⟨yc, yk, ys⟩ := y
    obtain ⟨xc, xk, xs⟩ := x
    unfold hv at ND BH ⊢
    simp only at ND BH P1 X1 W1
    obtain ⟨n0, hn0⟩ : ∃ z, z = L0.length := ⟨_, rfl⟩
    have HN0 := hid hn0
    obtain ⟨ks, hks⟩ : ∃ z, z = k.size := ⟨_, rfl⟩
    have HKS := hid hks
    rw [← hks] at hs hln ⊢
    rw [← hn0] at hl hln
    have HNN := hid (show ks ≤ N by omega)
    have LKN := hid (show Lkd s (n : Int) from Or.inr ⟨n, rfl, ln⟩)
    clear h hup ht0 hx hgi7 hgi8 hpb hn0 hks ln li f0 f1 f2 f3 f6 f9 vk vr hhu hit c6' c9' c0' c1' ok hN
    go_enter Try.func54, Try.ntmps54
    go_wp2_with fail
    refine ND.out.mono ?_
    rintro e w2 ⟨rfl, e2⟩
    have X2 := hid (show Ex F w w2 pa pm (tk s (k0 + 4)) by rw [← tk_tk]; exact X1.out.stay e2.is e2.kept)
    have P2 := hid ((e2.kept.block pb (lt_of_block P1.out) (fun q => by have := FL.out pb q; have := HPB.out; omega)).trans P1.out)
    clear e2 ND X1 P1 hpbw
    obtain ⟨xb, hxb⟩ : ∃ xb, xb = w2.heap.size := ⟨_, rfl⟩
    have HXB := hid hxb
    have hxbw : w2.heap.size = xb := hxb.symm
    have X3 := hid (X2.out.plain ((Kept.refl _ _).alloc (.cells #[.int .i64 (xc : Int), .int .i64 xk, .int .i64 xs] 55)))
    have P3 := hid ((Below.heap_alloc w2 (.cells #[.int .i64 (xc : Int), .int .i64 xk, .int .i64 xs] 55) _ (lt_of_block P2.out)).trans P2.out)
    have Q3 := hid (show (w2.alloc (.cells #[.int .i64 (xc : Int), .int .i64 xk, .int .i64 xs] 55)).heap[xb]? = some (.cells #[.int .i64 (xc : Int), .int .i64 xk, .int .i64 xs] 55) by rw [hxb]; exact heap_alloc_new w2 _)
    have W3 := hid (HW.out.ex X3.out)
    obtain ⟨c0, _, _, _, _, _, _, _, _⟩ := W3.out.cells
    have C2 := hid (cellT (n : Int) 0 (Ex.start X3.out.is) (by show s.steps + (k0 + 4) ≤ _; omega))
    rw [show cellS (tk s (k0 + 4)) (n : Int) 0 = up from CU.out] at C2
    have hlt3 := W3.out.lt
    have Hpx := hid (lt_of_block P2.out)
    have NFpb : Hid (¬ F pb) := hid (fun q => by have := FL.out pb q; have := HPB.out; omega)
    have NFxb : Hid (¬ F xb) := hid (fun q => by have := FL.out xb q; have := X2.out.kept.size; have := HXB.out; omega)
    clear hxb
    go_upto_region 2 with fail
    clear hxbw
    go_cut [46] from 26 to 46 (fun v wx => v = .bool false ∧ Hid (Ex F w wx pa pm (tk s (k0 + 5))) ∧ Hid (wx.heap[xb]? = some (.cells #[.int .i64 (xc : Int), .int .i64 xk, .int .i64 xs] 55)))
    case first =>
      go_wp2_with fail
      refine C2.out.mono ?_
      rintro e w5 ⟨rfl, e5⟩
      have X6 := hid (show Ex F w w5 pa pm (tk s (k0 + 5)) by rw [show k0 + 5 = k0 + 4 + 1 from rfl, ← tk_tk]; exact X3.out.stay e5.is e5.kept)
      have P6 := hid ((e5.kept.block pb (lt_of_block P3.out) NFpb.out).trans P3.out)
      have Q6 := hid ((e5.kept.block xb (lt_of_block Q3.out) NFxb.out).trans Q3.out)
      clear e5 C2 X3 P3 Q3 W3 c0
      have REST : Hid (∀ w7 : World, Kept (fun _ => False) w5 w7 → Ex F w w7 pa pm (tk s (k0 + 5)) ∧ w7.heap[xb]? = some (.cells #[.int .i64 (xc : Int), .int .i64 xk, .int .i64 xs] 55)) := hid (fun w7 k7 => ⟨X6.out.plain k7, (k7.block xb (lt_of_block Q6.out) (fun e => e)).trans Q6.out⟩)
      cases top
      · have hbf := BF.out.resolve_left (by decide)
        rw [hbf] at BH
        have z0 : w5.cell? ⟨xb, 0, none⟩ = some (.int .i64 (xc : Int)) := blk_cell Q6.out rfl
        have z1 : w5.cell? ⟨xb, 1, none⟩ = some (.int .i64 xk) := blk_cell Q6.out rfl
        have z2 : w5.cell? ⟨xb, 2, none⟩ = some (.int .i64 xs) := blk_cell Q6.out rfl
        have y0 : w5.cell? ⟨pb, 0, none⟩ = some (.int .i64 (yc : Int)) := blk_cell P6.out rfl
        have y1 : w5.cell? ⟨pb, 1, none⟩ = some (.int .i64 yk) := blk_cell P6.out rfl
        have y2 : w5.cell? ⟨pb, 2, none⟩ = some (.int .i64 ys) := blk_cell P6.out rfl
        clear hbf
        go_wp2_with fail
        refine (BH.out _).mono ?_
        rintro e w7 ⟨rfl, k7⟩
        obtain ⟨x7, q7⟩ := REST.out w7 k7
        have X7 := hid x7
        have Q7 := hid q7
        clear k7 x7 q7 X6 P6 Q6 z0 z1 z2 y0 y1 y2 BH REST
        go_wp2_with fail
        go_meet
        case rel => exact ⟨rfl, X7, Q7⟩
      · go_wp2_with fail
        go_meet
        case rel => exact ⟨rfl, X6, Q6⟩
    case rest =>
      obtain ⟨rfl, X7, Q7⟩ := hcut
      obtain ⟨w7, rfl⟩ : ∃ w7, w7 = wc := ⟨_, rfl⟩
      have W7 := hid (HW.out.ex X7.out)
      clear c0 C2 X3 P3 Q3 W3 BH BF hlt3
      obtain ⟨c0, _, _, _, _, _, _, _, _⟩ := W7.out.cells
      have C4 := hid (cellT (n : Int) 1 (Ex.start X7.out.is) (by show s.steps + (k0 + 5) ≤ _; omega))
      rw [show cellS (tk s (k0 + 5)) (n : Int) 1 = k.root from CD.out] at C4
      go_wp2_with fail
      refine C4.out.mono ?_
      rintro e w8 ⟨rfl, e8⟩
      have X8 := hid (show Ex F w w8 pa pm (tk s (k0 + 6)) by rw [show k0 + 6 = k0 + 5 + 1 from rfl, ← tk_tk]; exact X7.out.stay e8.is e8.kept)
      have Q8 := hid ((e8.kept.block xb (lt_of_block Q7.out) NFxb.out).trans Q7.out)
      clear e8 C4 X7 Q7 W7 c0
      obtain ⟨rk, hrk⟩ : ∃ z, z = k.root := ⟨_, rfl⟩
      have HRK := hid hrk
      rw [← hrk]
      clear hrk
      go_wp2_with fail
      go_loopw [15, 16, 17] (fun zv lv cv wr => ∃ (rest : Tr) (q' rr : Int) (z k1 : Nat), zv = .int .i64 (z : Int) ∧ lv = .int .i64 q' ∧ cv = .int .i64 rr ∧ Hid (rr = rest.root) ∧ 1 ≤ z ∧ Hid (Vp (LS s) (hasS s) (n : Int) q' rest) ∧ Hid (Hu (befF (hasS s)) i rest) ∧ Hid (∀ j ∈ rest.items, ∃ a x, Held s L0 j a x) ∧ Hid (Lkd s q') ∧ Hid (z + rest.size = ks + 1) ∧ Hid (k1 + 8 * rest.size ≤ k0 + 6 + 8 * ks) ∧ Hid (Ex F w wr pa pm (tk s k1)) ∧ Hid (wr.heap[xb]? = some (.cells #[.int .i64 (xc : Int), .int .i64 xk, .int .i64 xs] 55))) (fun zv _ _ _ => ks + 2 - (intOf zv).toNat)
      case atStart => exact ⟨k, -1, rk, 1, k0 + 6, rfl, rfl, rfl, HRK, by omega, VK, HU, IT, hid (Lkd.none s), hid (by have := HKS.out; omega), hid (by have := HKS.out; omega), X8, Q8⟩
      case round =>
        clear X8 Q8 HRK VK HU IT
        obtain ⟨rest, q', rr, z, k1, rfl, rfl, rfl, hrr, hz0, hvr, hur, hir, hlq, hz, hk1, hE, hQ⟩ := hrel
        cases rest with
        | lf =>
          have hr0 : rr = -1 := hrr.out
          subst hr0
          have hzz : z = ks + 1 := by have := hz.out; simpa [size] using this
          subst hzz
          have HKK := hid (show k1 + 2 ≤ k0 + 8 * (ks + 1) by have := hk1.out; simp only [size] at this; omega)
          clear hz hk1 hQ hrr
          go_wp2
          go_ret
          exact ⟨rfl, k1, HKK.out, hE.out⟩
        | nd c j l r' =>
          have hr0 : rr = (c : Int) := hrr.out
          subst hr0
          have hn1 : ((c : Int) == -1) = false := by simp
          obtain ⟨⟨lc, lj, g0, g1, g2, g3, g6, g9⟩, vl, vr'⟩ := hvr.out
          obtain ⟨hb, hul, hur'⟩ := hur.out
          have hz1 := hz.out
          have hk2 := hk1.out
          simp only [size] at hz1 hk2
          have WR := hid (HW.out.ex hE.out)
          have T := hid (IH.out c j l r' wr k1 (n : Int) q' (xc, xk, xs) false (by have := HNN.out; omega) hvr.out hul (fun z hz => hir.out z (by simp only [items, List.mem_cons, List.mem_append]; rcases hz with h | h; exact Or.inl h; exact Or.inr (Or.inl h))) (by have := HN0.out; omega) LKN.out WR.out (Or.inr fun a' x' hx' => by rw [befH_held hx' HX.out]; exact hb) (by omega))
          obtain ⟨zc, hzc⟩ : ∃ z, z = l.size + 1 := ⟨_, rfl⟩
          rw [← hzc] at T
          have hzc1 : 1 ≤ zc := by omega
          have hzc2 : ((zc : Int) == 0) = false := by simp; omega
          obtain ⟨zs, hzs⟩ : ∃ zs, zs = z + zc := ⟨_, rfl⟩
          have hwz : IntKind.i64.wrap ((z : Int) + (zc : Int)) = (zs : Int) := by rw [IntWalk.i64_in _ (by omega)]; omega
          have ZS := hid (show zs + r'.size = ks + 1 by omega)
          have hz1' : ¬ n0 < zs := by omega
          have hd2 : decide ((n0 : Int) < (zs : Int)) = false := by simp; omega
          have hd4 : decide (n0 < zs) = false := by simp; omega
          have HG2 := hid (show ∀ k2 : Nat, cellS (tk s k2) (c : Int) 2 = q' from fun _ => (show cellS s (c : Int) 2 = q' from cell_lkd (j := 2) OK.out lc (by decide) g2 hlq.out))
          have HG3 := hid (show ∀ k2 : Nat, cellS (tk s k2) (c : Int) 3 = r'.root from fun _ => (show cellS s (c : Int) 3 = r'.root from cell_lkd (j := 3) OK.out lc (by decide) g3 (root_lkd vr')))
          have VR := hid vr'
          have UR := hid hur'
          have IR := hid (show ∀ j ∈ r'.items, ∃ a x, Held s L0 j a x from fun z hz => hir.out z (by simp only [items, List.mem_cons, List.mem_append]; exact Or.inr (Or.inr hz)))
          have LC := hid (show Lkd s (c : Int) from Or.inr ⟨c, rfl, lc⟩)
          have HK2 := hid (show zc = l.size + 1 from hzc)
          have HB2 := hid (show k1 + 8 * zc + 8 * r'.size ≤ k0 + 6 + 8 * ks by omega)
          have hzz : z ≤ ks := by omega
          have HZS := hid (show z < zs by omega)
          unfold hv at T
          have z0 : wr.cell? ⟨xb, 0, none⟩ = some (.int .i64 (xc : Int)) := blk_cell hQ.out rfl
          have z1 : wr.cell? ⟨xb, 1, none⟩ = some (.int .i64 xk) := blk_cell hQ.out rfl
          have z2 : wr.cell? ⟨xb, 2, none⟩ = some (.int .i64 xs) := blk_cell hQ.out rfl
          clear lc lj g0 g1 g2 g3 g6 g9 vl vr' hb hul hur' hz1 hk2 hzc hzs hvr hur hir hrr hz hk1
          go_wp2_with fail
          refine T.out.mono ?_
          rintro e w11 ⟨rfl, k2, hk2, e11⟩
          have X11 := hid (hE.out.stay e11.is e11.kept)
          have Q11 := hid ((e11.kept.block xb (lt_of_block hQ.out) NFxb.out).trans hQ.out)
          have W11 := hid (HW.out.ex X11.out)
          have hkb : k2 + 2 ≤ k1 + 8 * zc := by have := HK2.out; omega
          have C5 := hid (cellT (c : Int) 2 (Ex.start X11.out.is) (by show s.steps + k2 ≤ _; have := HB2.out; omega))
          rw [HG2.out k2] at C5
          obtain ⟨c0, _, _, _, _, _, _, _, _⟩ := W11.out.cells
          clear e11 hk2 T z0 z1 z2 WR hE hQ
          go_wp2_with fail
          refine C5.out.mono ?_
          rintro e w12 ⟨rfl, e12⟩
          have X12 := hid (show Ex F w w12 pa pm (tk s (k2 + 1)) by rw [← tk_tk]; exact X11.out.stay e12.is e12.kept)
          have Q12 := hid ((e12.kept.block xb (lt_of_block Q11.out) NFxb.out).trans Q11.out)
          have W12 := hid (HW.out.ex X12.out)
          clear e12 C5 X11 Q11 W11 c0
          obtain ⟨c0, _, _, c3, _, _, _, _, _⟩ := W12.out.cells
          rw [HV'.out, ← HN0.out] at c3
          have C6 := hid (cellT (c : Int) 3 (Ex.start X12.out.is) (by show s.steps + (k2 + 1) ≤ _; have := HB2.out; omega))
          rw [HG3.out (k2 + 1)] at C6
          obtain ⟨rr', hrr'⟩ : ∃ z, z = r'.root := ⟨_, rfl⟩
          have HRR := hid hrr'
          rw [← hrr'] at C6
          clear hrr'
          go_wp2_with fail
          refine C6.out.mono ?_
          rintro e w13 ⟨rfl, e13⟩
          have X13 := hid (show Ex F w w13 pa pm (tk s (k2 + 2)) by rw [show k2 + 2 = k2 + 1 + 1 from rfl, ← tk_tk]; exact X12.out.stay e13.is e13.kept)
          have Q13 := hid ((e13.kept.block xb (lt_of_block Q12.out) NFxb.out).trans Q12.out)
          clear e13 C6 X12 Q12 W12 c0 c3
          go_wp2
          go_roundw
          case rel => exact ⟨r', (c : Int), rr', zs, k2 + 2, rfl, rfl, rfl, HRR, by have := HZS.out; omega, VR, UR, IR, LC, ZS, hid (by have := HB2.out; omega), X13, Q13⟩
          case measure => have := HZS.out; simp [intOf]; omega
end Go.Proofs.Ythfdooigljkfiaa
