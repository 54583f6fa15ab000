/- The laws' tree. -/
import Derived.Test.YtckoglddhkbgkabGreatGl
namespace Go.Proofs.YtckoglddhkbgkabGreat
open Go.ChangeShapes Go.WideShapes Go.ChangeAt Go.RowKit
open Tr

theorem sum_take {sz : Nat → Nat} : ∀ (l : List Nat) (j : Nat), (∀ c ∈ l, 1 ≤ sz c) → j ≤ l.length → ((l.take j).map sz).sum + (l.length - j) ≤ (l.map sz).sum
  | [], j, _, h => by simp at h; subst h; simp
  | a :: r, 0, h, _ => by
    have h1 := sum_take r 0 (fun c hc => h c (by simp [hc])) (Nat.zero_le _)
    have h2 := h a (by simp)
    simp only [List.take_zero, List.map_nil, List.sum_nil, List.map_cons, List.sum_cons, List.length_cons] at h1 ⊢
    omega
  | a :: r, j + 1, h, hj => by
    have h1 := sum_take r j (fun c hc => h c (by simp [hc])) (by simpa using hj)
    simp only [List.take_succ_cons, List.map_cons, List.sum_cons, List.length_cons] at h1 ⊢
    omega
set_option maxHeartbeats 8000000 in
set_option maxRecDepth 100000 in
theorem tree0 {w0 : Fm} {F : Nat → Prop} {pw pa pm : Nat} {v0 v1 : Value} {s : St} {r0 r1 : Int} {L0 L1 : List (Nat × Int × Int)} {nx sp mo : Int} {H : List Nat} {sz ht : Nat → Nat} (S : Shp s L0 H sz ht) (hl : L0.length ≤ 1000) : ∀ (N : Nat) (n : Nat) (w : World) (k0 : Nat) (u : Int) (y : Nat × Int × Int) (top : Bool), ht n < N → n ∈ H →
    Wx w0 w F pw pa pm v0 v1 (tk s k0) r0 r1 L0 L1 nx sp mo → cellS s (n : Int) 0 = u → (top = true ∨ ∀ a x, Held s L0 (itF (hasS s) n) a x → befH x y = false) → s.steps + k0 + 10 * sz n ≤ 80000000 →
    Calls Tryz.prog 58 #[.pointer (some ⟨pw, 0, none⟩), .int .i64 0, .int .i64 (n : Int), .int .i64 u, hv y, .bool top] w fun e w' => e = .returned (.int .i64 (sz n : Int)) ∧ ∃ k, k + 2 ≤ k0 + 10 * sz n ∧ Ex F w w' pa pm (tk s k)
  | 0, n, w, k0, u, y, top => fun h _ _ _ _ _ => absurd h (Nat.not_lt_zero _)
  | N + 1, n, w, k0, u, y, top => by
    intro hN nH h hu ht0 hs
    have IH := hid (fun n w k0 u y top => tree0 (w0 := w0) (F := F) (pw := pw) (pa := pa) (pm := pm) (v0 := v0) (v1 := v1) (r0 := r0) (r1 := r1) (L0 := L0) (L1 := L1) (nx := nx) (sp := sp) (mo := mo) S hl N n w k0 u y top)
    obtain ⟨va, vc, hv'⟩ := h.l0.form
    have HV' := hid hv'
    clear hv'
    obtain ⟨a, x, hx⟩ := S.held n nH
    obtain ⟨c6, c9, lii⟩ := S.it n nH
    obtain ⟨C, K⟩ := S.ch n nH
    have KK := hid K
    have MK := hid (S.mark n nH)
    have LE := hid (S.le n nH)
    have BF := hid (show top = true ∨ befH x y = false from ht0.imp id fun q => q a x hx)
    have hgi7 : getS s (x.1 : Int) 7 = x.2.1 := by rw [hx.2.1]; exact (get_nat (j := 7) lii (by decide)).trans hx.2.2.2.1
    have hgi8 : getS s (x.1 : Int) 8 = x.2.2 := by rw [hx.2.1]; exact (get_nat (j := 8) lii (by decide)).trans hx.2.2.2.2
    have HW := hid h
    obtain ⟨pb, hpb⟩ : ∃ pb, pb = w.heap.size := ⟨_, rfl⟩
    have HPB := hid hpb
    have W1 := hid (h.plain ((Kept.refl _ _).alloc (.cells #[.int .i64 (y.1 : Int), .int .i64 y.2.1, .int .i64 y.2.2] 36)))
    have ND := hid (node0 W1.out (n : Int) a x hx.1 hx.2.2.1 (by rw [show cellS (tk s k0) (n : Int) 6 = cellS s (n : Int) 6 from rfl, c6, hx.2.1]) (by rw [show cellS (tk s k0) (x.1 : Int) 9 = cellS s (x.1 : Int) 9 from rfl, hx.2.1, c9]) hgi7 hgi8 hl (by show s.steps + k0 ≤ _; omega))
    have P1 := hid (show (w.alloc (.cells #[.int .i64 (y.1 : Int), .int .i64 y.2.1, .int .i64 y.2.2] 36)).heap[pb]? = some (.cells #[.int .i64 (y.1 : Int), .int .i64 y.2.1, .int .i64 y.2.2] 36) by rw [hpb]; exact heap_alloc_new w _)
    have NFp : Hid (¬ F pw) := h.out
    have FL := hid h.is.lt
    have X1 := hid ((Ex.start h.is).plain ((Kept.refl _ _).alloc (.cells #[.int .i64 (y.1 : Int), .int .i64 y.2.1, .int .i64 y.2.2] 36)))
    have hpbw : w.heap.size = pb := hpb.symm
    have CU := hid hu
    have HX := hid hx
    have SS := hid S
    have BH := hid (fun w => beforeH x y w)
    have hn1 : ((n : Int) == -1) = false := by simp
    obtain ⟨yc, yk, ys⟩ := y
    obtain ⟨xc, xk, xs⟩ := x
    unfold hv at ND BH ⊢
    simp only at ND BH P1 X1 W1
    obtain ⟨n0, hn0⟩ : ∃ z, z = L0.length := ⟨_, rfl⟩
    have HN0 := hid hn0
    obtain ⟨mk, hmk⟩ : ∃ z, z = getS s (n : Int) 5 := ⟨_, rfl⟩
    have HMK := hid hmk
    have hmk01 : mk = 0 ∨ mk = 1 := by rw [hmk]; exact MK.out
    obtain ⟨zn, hzn⟩ : ∃ z, z = sz n := ⟨_, rfl⟩
    have HZN := hid hzn
    rw [← hzn] at hs ⊢
    have hzn1 : 1 ≤ zn := by rw [hzn]; exact LE.out.1
    rw [← hn0] at hl
    clear h hu ht0 hx c6 c9 lii K hgi7 hgi8 hpb hmk hn0 hzn
    go_enter Tryz.func58, Tryz.ntmps58
    go_wp2_with fail
    refine ND.out.mono ?_
    rintro e w2 ⟨rfl, e2⟩
    have X2 := hid (show Ex F w w2 pa pm (tk s (k0 + 4)) by rw [← tk_tk]; exact X1.out.stay e2.is e2.kept)
    have P2 := hid ((e2.kept.block pb (lt_of_block P1.out) (fun q => by have := FL.out pb q; have := HPB.out; omega)).trans P1.out)
    clear e2 ND X1 P1 hpbw
    obtain ⟨xb, hxb⟩ : ∃ xb, xb = w2.heap.size := ⟨_, rfl⟩
    have HXB := hid hxb
    have hxbw : w2.heap.size = xb := hxb.symm
    have X3 := hid (X2.out.plain ((Kept.refl _ _).alloc (.cells #[.int .i64 (xc : Int), .int .i64 xk, .int .i64 xs] 36)))
    have P3 := hid ((Below.heap_alloc w2 (.cells #[.int .i64 (xc : Int), .int .i64 xk, .int .i64 xs] 36) _ (lt_of_block P2.out)).trans P2.out)
    have Q3 := hid (show (w2.alloc (.cells #[.int .i64 (xc : Int), .int .i64 xk, .int .i64 xs] 36)).heap[xb]? = some (.cells #[.int .i64 (xc : Int), .int .i64 xk, .int .i64 xs] 36) by rw [hxb]; exact heap_alloc_new w2 _)
    have W3 := hid (HW.out.ex X3.out)
    obtain ⟨c0, c1, c2, c3, c4, c5, c6, c7, cf⟩ := W3.out.cells
    clear c1 c2 c3 c4 c5 c6 c7 cf
    have C1 := hid (getT (n : Int) 5 (Ex.start X3.out.is) (by show s.steps + (k0 + 4) ≤ _; omega))
    rw [show getS (tk s (k0 + 4)) (n : Int) 5 = mk from HMK.out.symm] at C1
    have hlt3 := W3.out.lt
    have Hpx := hid (lt_of_block P2.out)
    clear hxb
    go_wp2_with fail
    have NFpb : Hid (¬ F pb) := fun q => by have := FL.out pb q; have := HPB.out; omega
    have NFxb : Hid (¬ F xb) := fun q => by have := FL.out xb q; have := X2.out.kept.size; have := HXB.out; omega
    refine C1.out.mono ?_
    rintro e w4 ⟨rfl, e4⟩
    have X4 := hid (show Ex F w w4 pa pm (tk s (k0 + 4 + 1)) by rw [← tk_tk]; exact X3.out.stay e4.is e4.kept)
    have P4 := hid ((e4.kept.block pb (lt_of_block P3.out) NFpb.out).trans P3.out)
    have Q4 := hid ((e4.kept.block xb (lt_of_block Q3.out) NFxb.out).trans Q3.out)
    have W4 := hid (HW.out.ex X4.out)
    clear e4 C1 X3 P3 Q3 W3
    clear c0
    obtain ⟨c0, _, _, _, _, _, _, _, _⟩ := W4.out.cells
    have C2 := hid (cellT (n : Int) 0 (Ex.start X4.out.is) (by show s.steps + (k0 + 4 + 1) ≤ _; omega))
    rw [show cellS (tk s (k0 + 4 + 1)) (n : Int) 0 = u from CU.out] at C2
    have hcl : C.length ≤ zn := by
      have h1 := KK.out.size
      have h2 : C.length ≤ (C.map sz).sum := by
        have : ∀ l : List Nat, (∀ c ∈ l, c ∈ H) → l.length ≤ (l.map sz).sum := by
          intro l
          induction l with
          | nil => intro _; simp
          | cons a r ih =>
            intro hr
            have := ih fun c hc => hr c (by simp [hc])
            have := (SS.out.le a (hr a (by simp))).1
            simp only [List.map_cons, List.sum_cons, List.length_cons]; omega
        exact this C fun c hc => (KK.out.sub c hc).1
      have := HZN.out
      omega
    have hzl : zn ≤ n0 := by have := HN0.out; have := HZN.out; have := LE.out.2; omega
    have RN := hid (fun (w8 : World) (k : Nat) (h8 : Ex F w w8 pa pm (tk s k)) (hk : k ≤ k0 + 7) => ringL0 (L0 := L0) (s := tk s k) C (HW.out.ex h8) KK.out.ring KK.out.nd KK.out.ln (Sm.tk SS.out.ok k).ok (by have := HN0.out; omega) (by have := HN0.out; omega) (by show s.steps + k ≤ _; omega))
    go_upto_region 3 with fail
    go_cut [66] from 38 to 66 (fun v wx => v = .bool false ∧ Hid (Ex F w wx pa pm (tk s (k0 + 6))) ∧ Hid (wx.heap[xb]? = some (.cells #[.int .i64 (xc : Int), .int .i64 xk, .int .i64 xs] 36)))
    case first =>
      go_wp2_with fail
      refine C2.out.mono ?_
      rintro e w5 ⟨rfl, e5⟩
      have X6 := hid (show Ex F w w5 pa pm (tk s (k0 + 6)) by rw [show k0 + 6 = k0 + 4 + 1 + 1 from rfl, ← tk_tk]; exact X4.out.stay e5.is e5.kept)
      have P6 := hid ((e5.kept.block pb (lt_of_block P4.out) NFpb.out).trans P4.out)
      have Q6 := hid ((e5.kept.block xb (lt_of_block Q4.out) NFxb.out).trans Q4.out)
      have W6 := hid (HW.out.ex X6.out)
      clear e5 C2 X4 P4 Q4 W4 c0
      have REST : Hid (∀ w7 : World, Kept (fun _ => False) w5 w7 → Ex F w w7 pa pm (tk s (k0 + 6)) ∧ w7.heap[xb]? = some (.cells #[.int .i64 (xc : Int), .int .i64 xk, .int .i64 xs] 36)) := hid (fun w7 k7 => ⟨X6.out.plain k7, (k7.block xb (lt_of_block Q6.out) (fun e => e)).trans Q6.out⟩)
      cases top
      · have hbf := BF.out.resolve_left (by decide)
        rw [hbf] at BH
        have z0 : w5.cell? ⟨xb, 0, none⟩ = some (.int .i64 (xc : Int)) := blk_cell Q6.out rfl
        have z1 : w5.cell? ⟨xb, 1, none⟩ = some (.int .i64 xk) := blk_cell Q6.out rfl
        have z2 : w5.cell? ⟨xb, 2, none⟩ = some (.int .i64 xs) := blk_cell Q6.out rfl
        have y0 : w5.cell? ⟨pb, 0, none⟩ = some (.int .i64 (yc : Int)) := blk_cell P6.out rfl
        have y1 : w5.cell? ⟨pb, 1, none⟩ = some (.int .i64 yk) := blk_cell P6.out rfl
        have y2 : w5.cell? ⟨pb, 2, none⟩ = some (.int .i64 ys) := blk_cell P6.out rfl
        clear hbf
        go_wp2_with fail
        refine (BH.out _).mono ?_
        rintro e w7 ⟨rfl, k7⟩
        obtain ⟨x7, q7⟩ := REST.out w7 k7
        have X7 := hid x7
        have Q7 := hid q7
        clear k7 x7 q7 X6 P6 Q6 W6 z0 z1 z2 y0 y1 y2 BH REST
        rcases hmk01 with e | e <;> subst e
        all_goals
          go_wp2_with fail
          go_meet
          case rel => exact ⟨rfl, X7, Q7⟩
      · rcases hmk01 with e | e <;> subst e
        all_goals
          go_wp2_with fail
          go_meet
          case rel => exact ⟨rfl, X6, Q6⟩
    case rest =>
      obtain ⟨rfl, X7, Q7⟩ := hcut
      obtain ⟨w7, rfl⟩ : ∃ w7, w7 = wc := ⟨_, rfl⟩
      have W7 := hid (HW.out.ex X7.out)
      clear c0 C2 X4 P4 Q4 W4 BH BF hmk01
      obtain ⟨c0, _, _, _, _, _, _, _, _⟩ := W7.out.cells
      have C4 := hid (cellT (n : Int) 1 (Ex.start X7.out.is) (by show s.steps + (k0 + 6) ≤ _; omega))
      rw [show cellS (tk s (k0 + 6)) (n : Int) 1 = hdL C from KK.out.down] at C4
      go_wp2_with fail
      refine C4.out.mono ?_
      rintro e w8 ⟨rfl, e8⟩
      have X8 := hid (show Ex F w w8 pa pm (tk s (k0 + 7)) by rw [show k0 + 7 = k0 + 6 + 1 from rfl, ← tk_tk]; exact X7.out.stay e8.is e8.kept)
      have Q8 := hid ((e8.kept.block xb (lt_of_block Q7.out) NFxb.out).trans Q7.out)
      have R8 := hid (RN.out w8 (k0 + 7) X8.out (Nat.le_refl _))
      clear e8 C4 X7 Q7 W7 c0 RN
      generalize hdL C = dc at *
      go_wp2_with fail
      refine R8.out.mono ?_
      rintro e w9 ⟨v9, rfl, o9, k9, hk9, e9⟩
      have hll : (nd1 C).length = C.length := nd1_len C
      obtain ⟨xa, xc', rfl⟩ := own_form o9
      have O9 := hid (show w9.ownsRow w8.heap.size 3 1 (.slice xa (nd1 C).length xc') (nd1 C).length (row int1 (nd1 C)) from o9)
      have X9 := hid (show Ex F w w9 pa pm (tk s (k0 + 7 + k9)) by rw [← tk_tk]; exact X8.out.stay e9.is e9.kept)
      have Q9 := hid ((e9.kept.block xb (lt_of_block Q8.out) NFxb.out).trans Q8.out)
      have HK9 := hid hk9
      have S8 := hid (show w.heap.size ≤ w8.heap.size from X8.out.kept.size)
      clear R8 o9 e9 X8 Q8
      obtain ⟨cl, hcl'⟩ : ∃ z, z = C.length := ⟨_, rfl⟩
      have HCL := hid hcl'
      rw [hll, ← hcl'] at O9 ⊢
      rw [← hcl'] at hk9 hcl
      have W9 := hid (HW.out.ex X9.out)
      obtain ⟨c0, _, _, _, _, _, _, _, _⟩ := W9.out.cells
      have C5 := hid (getT (n : Int) 4 (Ex.start X9.out.is) (by show s.steps + (k0 + 7 + k9) ≤ _; omega))
      rw [show getS (tk s (k0 + 7 + k9)) (n : Int) 4 = (cl : Int) from by rw [hcl']; exact KK.out.rank] at C5
      clear hll hcl'
      go_wp2_with fail
      refine C5.out.mono ?_
      rintro e w10 ⟨rfl, e10⟩
      have X10 := hid (show Ex F w w10 pa pm (tk s (k0 + 7 + k9 + 1)) by rw [← tk_tk]; exact X9.out.stay e10.is e10.kept)
      have Q10 := hid ((e10.kept.block xb (lt_of_block Q9.out) NFxb.out).trans Q9.out)
      have O10 := hid (own_kept O9.out e10.kept (fun b hb q => by have := FL.out b q; have := (O9.out.lt b hb).1; have := S8.out; omega))
      clear e10 C5 X9 Q9 O9 W9 c0
      have ST := hid (fun j (hj : j ≤ cl) => (show ((C.take j).map sz).sum + (cl - j) + 1 ≤ zn from by
        have h1 := sum_take C j (fun c hc => (SS.out.le c (KK.out.sub c hc).1).1) (by have := HCL.out; omega)
        have h2 := KK.out.size
        have := HZN.out
        have := HCL.out
        omega))
      have OB := hid (fun b hb => (O10.out.lt b hb))
      go_wp2_with fail
      go_loopw [18, 94] (fun zv iv wr => ∃ (j z k1 : Nat), zv = .int .i64 (z : Int) ∧ iv = .int .i64 (j : Int) ∧ j ≤ cl ∧ Hid (z = 1 + ((C.take j).map sz).sum) ∧ Hid (k1 + 2 * j ≤ k0 + 8 + 2 * cl + 10 * ((C.take j).map sz).sum) ∧ Hid (wr.ownsRow w8.heap.size 3 1 (.slice xa cl xc') cl (row int1 (nd1 C))) ∧ Hid (Ex F w wr pa pm (tk s k1)) ∧ Hid (wr.heap[xb]? = some (.cells #[.int .i64 (xc : Int), .int .i64 xk, .int .i64 xs] 36))) (fun _ iv _ => cl - (intOf iv).toNat)
      case atStart => exact ⟨0, 1, k0 + 7 + k9 + 1, rfl, rfl, Nat.zero_le _, hid (by simp), hid (by have := HK9.out; have := HCL.out; simp; omega), O10, X10, Q10⟩
      case round =>
        clear X10 Q10 O10
        obtain ⟨j, z, k1, rfl, rfl, hj, hz, hk1, ho, hE, hQ⟩ := hrel
        by_cases hlt : j < cl
        · have hx : C[j]? = some (C[j]'(by have := HCL.out; omega)) := List.getElem?_eq_getElem _
          generalize (C[j]'(by have := HCL.out; omega)) = c at hx
          have hcC : c ∈ C := List.mem_of_getElem? hx
          obtain ⟨cH, cU, cT, cB⟩ := KK.out.sub c hcC
          obtain ⟨g, cap, e, hg, _, hcell⟩ := own1_at (l := nd1 C) (v := .slice xa cl xc') (by have h := ho.out; rw [nd1_len, ← HCL.out]; exact h) int1_len (nd1_at hx)
          obtain rfl : xa = some ⟨g, 0, none⟩ := by injection e
          replace hcell : wr.cell? ⟨g, j, none⟩ = some (.int .i64 (c : Int)) := hcell
          have TK := hid (show ((C.take (j + 1)).map sz).sum = ((C.take j).map sz).sum + sz c by rw [List.take_add_one, hx]; simp)
          have WR := hid (HW.out.ex hE.out)
          have S1 := hid (ST.out (j + 1) hlt)
          have T := hid (IH.out c wr k1 (n : Int) (xc, xk, xs) false (by omega) cH WR.out cU (Or.inr fun a' x' hx' => by rw [befH_held hx' HX.out]; exact cB) (by have := S1.out; have := TK.out; have := hk1.out; omega))
          have CZ := hid (SS.out.le c cH)
          obtain ⟨zc, hzc⟩ : ∃ z, z = sz c := ⟨_, rfl⟩
          rw [← hzc] at T TK
          have hzc1 : 1 ≤ zc := by rw [hzc]; exact CZ.out.1
          have hzc2 : ((zc : Int) == 0) = false := by simp; omega
          have hzz : z + zc ≤ 2000 := by have := S1.out; have := TK.out; have := hz.out; omega
          have hwz : IntKind.i64.wrap ((z : Int) + (zc : Int)) = ((z + zc : Nat) : Int) := by rw [IntWalk.i64_in _ (by omega)]; omega
          have hlt' : (j : Int) < (cl : Int) := by omega
          unfold hv at T
          have z0 : wr.cell? ⟨xb, 0, none⟩ = some (.int .i64 (xc : Int)) := blk_cell hQ.out rfl
          have z1 : wr.cell? ⟨xb, 1, none⟩ = some (.int .i64 xk) := blk_cell hQ.out rfl
          have z2 : wr.cell? ⟨xb, 2, none⟩ = some (.int .i64 xs) := blk_cell hQ.out rfl
          clear hx hcC cH cU cT cB hzc CZ
          go_wp2_with fail
          refine T.out.mono ?_
          rintro e w11 ⟨rfl, k2, hk2, e11⟩
          have X11 := hid (hE.out.stay e11.is e11.kept)
          have Q11 := hid ((e11.kept.block xb (lt_of_block hQ.out) NFxb.out).trans hQ.out)
          have O11 := hid (own_kept ho.out e11.kept (fun b hb q => by have := FL.out b q; have := (ho.out.lt b hb).1; have := S8.out; omega))
          have HK2 := hid hk2
          clear e11 hk2 T z0 z1 z2 hcell
          go_wp2
          go_roundw
          case rel => exact ⟨j + 1, z + zc, k2, rfl, by go_num, by omega, hid (by have := TK.out; have := hz.out; omega), hid (by have := TK.out; have := hk1.out; have := HK2.out; omega), O11, X11, Q11⟩
          case measure => simp [intOf]; omega
        · obtain rfl : j = cl := by omega
          have hzz : z = zn := by
            have h1 := hz.out
            rw [List.take_of_length_le (by have := HCL.out; omega)] at h1
            have := KK.out.size
            have := HZN.out
            omega
          subst hzz
          have hkk : k1 + 2 ≤ k0 + 10 * z := by
            have h1 := hk1.out
            have h2 := ST.out j (Nat.le_refl _)
            omega
          have hfb : gF j ≤ z := by have h := KK.out.fib; rw [← HCL.out, ← HZN.out] at h; exact h
          have hc14 : j ≤ 14 := by
            rcases Nat.lt_or_ge j 15 with q | q
            · omega
            · have h3 := gF_mono q
              have h4 : gF 15 = 1597 := by decide
              omega
          have HKK := hid hkk
          clear hz hk1 ho hQ hkk
          have hge : decide ((j : Int) < (j : Int)) = false := by simp
          obtain ⟨w9, rfl⟩ : ∃ w9, w9 = wr := ⟨_, rfl⟩
          go_wp2_with fail
          go_loopw [22, 23, 24] (fun av bv kv wx => ∃ k a b : Nat, av = .int .i64 (a : Int) ∧ bv = .int .i64 (b : Int) ∧ kv = .int .i64 (k : Int) ∧ k ≤ j ∧ Hid (b = gF k) ∧ Hid (a + b = gF (k + 1)) ∧ Hid (Ex F w wx pa pm (tk s k1))) (fun _ _ kv _ => j - (intOf kv).toNat)
          case atStart => exact ⟨0, 1, 1, rfl, rfl, rfl, Nat.zero_le _, hid rfl, hid rfl, hE⟩
          case round =>
            clear hE hge
            obtain ⟨k, a', b', rfl, rfl, rfl, hkj, hb', hab, hE⟩ := hrel
            have hb1 : b' ≤ 1000 := by
              rw [hb'.out]
              have h1 := gF_mono hkj
              omega
            have ha1 : a' ≤ 2000 := by
              have h1 := hab.out
              have h2 := gF_mono (show k + 1 ≤ 15 by omega)
              have h3 : gF 15 = 1597 := by decide
              omega
            by_cases hlt : k < j
            · have hl1 : (k : Int) < (j : Int) := by omega
              have hl2 : (k : Int) < 30 := by omega
              have hwab : IntKind.i64.wrap ((a' : Int) + (b' : Int)) = ((a' + b' : Nat) : Int) := by rw [IntWalk.i64_in _ (by omega)]; omega
              clear hb1 ha1 hfb
              go_wp2
              go_roundw
              case rel => exact ⟨k + 1, b', a' + b', rfl, rfl, by go_num, hlt, hab, hid (by have := hb'.out; have := hab.out; show b' + (a' + b') = gF k + gF (k + 1); omega), hE⟩
              case measure => simp [intOf]; omega
            · obtain rfl : k = j := by omega
              have hg1 : decide ((k : Int) < (k : Int)) = false := by simp
              have hbz : b' ≤ z := by rw [hb'.out]; exact hfb
              have hbz1 : ¬ z < b' := by omega
              have hz1 : ¬ n0 < z := by omega
              have hd1 : decide ((z : Int) < (b' : Int)) = false := by simp; omega
              have hd2 : decide ((n0 : Int) < (z : Int)) = false := by simp; omega
              have hd3 : decide (n0 < z) = false := by simp; omega
              have hd4 : decide (z < b') = false := by simp; omega
              have WR := hid (HW.out.ex hE.out)
              obtain ⟨c0, _, _, c3, _, _, _, _, _⟩ := WR.out.cells
              rw [HV'.out, ← HN0.out] at c3
              clear hb1 ha1 hfb hb' hab hbz
              go_wp2
              go_ret
              exact ⟨rfl, k1, HKK.out, hE.out⟩
end Go.Proofs.YtckoglddhkbgkabGreat
