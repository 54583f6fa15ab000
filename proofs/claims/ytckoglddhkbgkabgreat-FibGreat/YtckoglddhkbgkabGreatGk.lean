/- Several texts in one. -/
import Derived.Test.YtckoglddhkbgkabGreatGc
import Derived.Test.YtckoglddhkbgkabGreatXu
import Derived.Test.YtckoglddhkbgkabGreatGj
import Derived.Test.YtckoglddhkbgkabGreatXv
/- What is held, compared. -/
namespace Go.Proofs.YtckoglddhkbgkabGreat
open Go.ChangeShapes Go.WideShapes Go.ChangeAt Go.RowKit

theorem equal65 (a b c : Int) (w : World) : (Op.equalIn 10000 36 (.agg #[.int .i64 a, .int .i64 b, .int .i64 c]) (.agg #[.int .i64 a, .int .i64 b, .int .i64 c])).run Tryz.prog w = .ok true w := by
  have u2 := Tryz.underlying2
  have a2 := Tryz.isAgg2
  have z2 := Tryz.sizeOf2
  have u3 := Tryz.underlying3
  have a3 := Tryz.isAgg3
  have z3 := Tryz.sizeOf3
  have a4 := Tryz.isAgg34
  have z4 := Tryz.sizeOf34
  have hS : Tryz.prog.underlying 36 = some (.struct (Tryz.prog.fieldsOf 36)) := by kernel_rfl
  have hp : Tryz.prog.stoodInHeld 36 = false := by kernel_rfl
  have hS4 : Tryz.prog.underlying 34 = some (.struct (Tryz.prog.fieldsOf 34)) := by kernel_rfl
  have hp4 : Tryz.prog.stoodInHeld 34 = false := by kernel_rfl
  obtain ⟨d, hd⟩ : ∃ d, (10000 : Nat) = d + 1 + 1 + 1 := ⟨9997, rfl⟩
  rw [hd, run_equalIn_agg w _ 36 _ _ hS hp]
  simp only [Program.fieldsOf, Tryz.underlying36]
  have E4 : ∀ w, (Op.equalIn (d + 1 + 1) 34 (.agg #[.int .i64 b, .int .i64 c]) (.agg #[.int .i64 b, .int .i64 c])).run Tryz.prog w = .ok true w := fun w => by
    rw [run_equalIn_agg w _ 34 _ _ hS4 hp4]
    simp only [Program.fieldsOf, Tryz.underlying34]
    go_simp
  clear hd hS hp hS4 hp4
  go_simp
theorem neq65 (a b c : Int) (w : World) : (binOp .neq 36 (.agg #[.int .i64 a, .int .i64 b, .int .i64 c]) (.agg #[.int .i64 a, .int .i64 b, .int .i64 c])).run Tryz.prog w = .ok (.bool false) w := by
  rw [run_neq_struct, equal65]
  simp
end Go.Proofs.YtckoglddhkbgkabGreat

/- The laws' shape. -/
namespace Go.Proofs.YtckoglddhkbgkabGreat
open Go.ChangeShapes Go.WideShapes Go.ChangeAt Go.RowKit
open Tr

set_option maxHeartbeats 4000000 in
set_option maxRecDepth 100000 in
theorem shape0 {w0 : Fm} {w : World} {F : Nat → Prop} {pw pa pm : Nat} {v0 v1 : Value} {s : St} {t u : Fq} {L0 L1 : List (Nat × Int × Int)} {nx sp mo : Int} (h : Wx w0 w F pw pa pm v0 v1 s (headr t) (headr u) L0 L1 nx sp mo) (hi : Inv s t u L0 L1) (hl : L0.length ≤ 1000) (hs : s.steps ≤ 70000000) :
    Calls Tryz.prog 37 #[.pointer (some ⟨pw, 0, none⟩), .int .i64 0] w fun e w' => e = .returned (.bool true) ∧ ∃ k, k ≤ 10 * L0.length + 4 ∧ Ex F w w' pa pm (tk s k) := by
  obtain ⟨sz, ht, S, hsum, hring, hnd, hlen, htop⟩ := shp_of hi.a hi.ok
  have HW := hid h
  have HA := hid hi.a
  have OK := hid hi.ok
  have SS := hid S
  have TOP := hid htop
  have RG := hid (ringL0 t.T h hring hnd (fun c hc => (htop c hc).2.1) hi.ok hlen hl (by omega))
  have TR := hid (fun (c : Nat) (w : World) (k0 : Nat) (hc : c ∈ t.T) hw hst => tree0 (w0 := w0) (F := F) (pw := pw) (pa := pa) (pm := pm) (v0 := v0) (v1 := v1) (r0 := headr t) (r1 := headr u) (L0 := L0) (L1 := L1) (nx := nx) (sp := sp) (mo := mo) SS.out hl (ht c + 1) c w k0 (-1) (0, 0, 0) true (Nat.lt_succ_self _) (TOP.out c hc).1 hw (TOP.out c hc).2.2 (Or.inl rfl) hst)
  have HSUM := hid hsum
  obtain ⟨va, vc, hv'⟩ := h.l0.form
  have HV' := hid hv'
  obtain ⟨c0, c1, c2, c3, c4, c5, c6, c7, cf⟩ := h.cells
  have hlt := h.lt
  have FL := hid h.is.lt
  have NFp : Hid (¬ F pw) := h.out
  obtain ⟨n0, hn0⟩ : ∃ z, z = L0.length := ⟨_, rfl⟩
  have HN0 := hid hn0
  obtain ⟨tl, htl⟩ : ∃ z, z = t.T.length := ⟨_, rfl⟩
  have HTL := hid htl
  have HLEN := hid hlen
  have SUMT := hid (fun (j : Nat) (hj : j ≤ tl) => (show ((t.T.take j).map sz).sum + (tl - j) ≤ n0 from by
    have h1 := sum_take t.T j (fun c hc => (SS.out.le c (TOP.out c hc).1).1) (by have := HTL.out; omega)
    have := HSUM.out
    have := HTL.out
    have := HN0.out
    omega))
  rw [← hn0] at hl ⊢
  have htl1 : tl ≤ 1000 := by rw [htl]; omega
  have htl2 : (nd1 t.T).length ≤ 1000 := by rw [nd1_len]; omega
  have hh : headr t = hdL t.T := rfl
  rw [hh] at c1
  clear h hi c0 c2 c3 c4 c5 c6 c7 cf hn0 hsum hring hnd hlen htop S hh htl
  obtain ⟨dr, hdr⟩ : ∃ dr, dr = hdL t.T := ⟨_, rfl⟩
  rw [← hdr] at RG c1
  have HDR := hid hdr
  clear hdr hv'
  go_enter Tryz.func37, Tryz.ntmps37
  go_wp2_with fail
  refine RG.out.mono ?_
  rintro e w1 ⟨v, rfl, o, k, hk, e1⟩
  obtain ⟨xa, xc, rfl⟩ := own_form o
  have hll : (nd1 t.T).length = t.T.length := nd1_len t.T
  have O1 := hid (show w1.ownsRow w.heap.size 3 1 (.slice xa (nd1 t.T).length xc) (nd1 t.T).length (row int1 (nd1 t.T)) from o)
  rw [hll, ← HTL.out] at O1 ⊢
  have X1 := hid e1
  have HK := hid (show k ≤ 2 * tl by have := HTL.out; omega)
  have hwb : w.heap.size = w.heap.size := rfl
  clear RG o e1 hk hll c1
  go_wp2_with fail
  go_loopw [7, 8] (fun av iv wr => ∃ (i al k1 : Nat), av = .int .i64 (al : Int) ∧ iv = .int .i64 (i : Int) ∧ i ≤ tl ∧ Hid (al = ((t.T.take i).map sz).sum) ∧ Hid (k1 + 2 * i ≤ 2 * tl + 10 * al) ∧ Hid (wr.ownsRow w.heap.size 3 1 (.slice xa tl xc) tl (row int1 (nd1 t.T))) ∧ Hid (Ex F w wr pa pm (tk s k1))) (fun _ iv _ => tl - (intOf iv).toNat)
  case atStart => exact ⟨0, 0, k, rfl, rfl, Nat.zero_le _, hid (by simp), hid (by have := HK.out; omega), O1, X1⟩
  case round =>
    clear X1 O1
    obtain ⟨i, al, k1, rfl, rfl, hi, hal, hk1, ho, hE⟩ := hrel
    by_cases hlt1 : i < tl
    · have hx : t.T[i]? = some (t.T[i]'(by have := HTL.out; omega)) := List.getElem?_eq_getElem _
      generalize (t.T[i]'(by have := HTL.out; omega)) = c at hx
      have hcC : c ∈ t.T := List.mem_of_getElem? hx
      obtain ⟨g, cap, e, hg, _, hcell⟩ := own1_at (l := nd1 t.T) (v := .slice xa tl xc) (by have h := ho.out; rw [nd1_len, ← HTL.out]; exact h) int1_len (nd1_at hx)
      obtain rfl : xa = some ⟨g, 0, none⟩ := by injection e
      replace hcell : wr.cell? ⟨g, i, none⟩ = some (.int .i64 (c : Int)) := hcell
      have TK := hid (show ((t.T.take (i + 1)).map sz).sum = ((t.T.take i).map sz).sum + sz c by rw [List.take_add_one, hx]; simp)
      have S1 := hid (SUMT.out (i + 1) hlt1)
      have WR := hid (HW.out.ex hE.out)
      have T := hid (TR.out c wr k1 hcC WR.out (by have := S1.out; have := TK.out; have := hk1.out; have := hal.out; omega))
      have CZ := hid (SS.out.le c (TOP.out c hcC).1)
      obtain ⟨zc, hzc⟩ : ∃ z, z = sz c := ⟨_, rfl⟩
      rw [← hzc] at T TK
      have hzc1 : 1 ≤ zc := by rw [hzc]; exact CZ.out.1
      have hzc2 : ((zc : Int) == 0) = false := by simp; omega
      have hzz : al + zc ≤ 2000 := by have := S1.out; have := TK.out; have := hal.out; omega
      have hwz : IntKind.i64.wrap ((al : Int) + (zc : Int)) = ((al + zc : Nat) : Int) := by rw [IntWalk.i64_in _ (by omega)]; omega
      have hlt' : (i : Int) < (tl : Int) := by omega
      unfold hv at T
      clear hx hcC hzc CZ
      go_wp2_with fail
      refine T.out.mono ?_
      rintro e w11 ⟨rfl, k2, hk2, e11⟩
      have X11 := hid (hE.out.stay e11.is e11.kept)
      have O11 := hid (own_kept ho.out e11.kept (fun b hb q => by have := FL.out b q; have := (ho.out.lt b hb).1; omega))
      have HK2 := hid hk2
      clear e11 hk2 T hcell
      go_wp2
      go_roundw
      case rel => exact ⟨i + 1, al + zc, k2, rfl, by go_num, by omega, hid (by have := TK.out; have := hal.out; omega), hid (by have := hk1.out; have := HK2.out; omega), O11, X11⟩
      case measure => simp [intOf]; omega
    · obtain rfl : i = tl := by omega
      have hzz : al = n0 := by
        have h1 := hal.out
        rw [List.take_of_length_le (by have := HTL.out; omega)] at h1
        have := HSUM.out
        have := HN0.out
        omega
      subst hzz
      have hge : decide ((i : Int) < (i : Int)) = false := by simp
      have hkf : k1 + 4 ≤ 10 * al + 4 := by have := hk1.out; omega
      have HKF := hid hkf
      clear hal hkf hk1 ho
      obtain ⟨w3, rfl⟩ : ∃ w3, w3 = wr := ⟨_, rfl⟩
      have W3 := hid (HW.out.ex hE.out)
      obtain ⟨c0, c1, _, c3, _, _, _, _, _⟩ := W3.out.cells
      rw [HV'.out, ← HN0.out] at c3
      have hlt3 := W3.out.lt
      cases hT : t.T with
      | nil =>
        have hi0 : i = 0 := by have := HTL.out; rw [hT] at this; simpa using this
        subst hi0
        clear hT c0 c1
        go_wp2
        go_ret
        exact ⟨rfl, k1, by have := HKF.out; omega, hE.out⟩
      | cons r x =>
        have hi1 : 0 < i := by have := HTL.out; rw [hT] at this; simp at this; omega
        have rH : r ∈ t.H := (TOP.out r (by rw [hT]; simp)).1
        obtain ⟨a, y, hy⟩ := SS.out.held r rH
        obtain ⟨c6, c9, lii⟩ := SS.out.it r rH
        have hgi7 : getS s (y.1 : Int) 7 = y.2.1 := by rw [hy.2.1]; exact (get_nat (j := 7) lii (by decide)).trans hy.2.2.2.1
        have hgi8 : getS s (y.1 : Int) 8 = y.2.2 := by rw [hy.2.1]; exact (get_nat (j := 8) lii (by decide)).trans hy.2.2.2.2
        have ND := hid (node0 W3.out (r : Int) a y hy.1 hy.2.2.1 (by rw [show cellS (tk s k1) (r : Int) 6 = cellS s (r : Int) 6 from rfl, c6, hy.2.1]) (by rw [show cellS (tk s k1) (y.1 : Int) 9 = cellS s (y.1 : Int) 9 from rfl, hy.2.1, c9]) hgi7 hgi8 (by have := HN0.out; omega) (by show s.steps + k1 ≤ _; have := HKF.out; omega))
        obtain ⟨z, hz, hz1⟩ := least_item HA.out hT
        have hzy : z = y := by
          obtain ⟨b, yb, hb⟩ := held_node HA.out rH
          have hn := hh_nodup HA.out
          have e1 : z.1 = y.1 := by rw [hz1, hy.2.1]
          rcases List.mem_iff_getElem?.1 (List.mem_of_getElem? hz) with ⟨q1, hq1⟩
          have hq2 := List.getElem?_eq_some_iff.1 hq1
          have hq3 := List.getElem?_eq_some_iff.1 hy.1
          rcases Nat.lt_trichotomy q1 a with q | q | q
          · exact absurd e1 (hy.2.2.1 q1 z q hq1)
          · have h2 := hy.1
            rw [← q, hq1] at h2
            injection h2
          · have := (List.pairwise_iff_getElem.1 hn) a q1 (by simpa using hq3.1) (by simpa using hq2.1) q
            simp only [List.getElem_map] at this
            rw [hq2.2, hq3.2] at this
            exact absurd e1.symm this
        rw [hzy] at hz
        obtain ⟨kk, hkk⟩ : ∃ kk, kk = lstS L0 (L0.length - 1) := ⟨_, rfl⟩
        rw [← hkk] at hz
        have HKK := hid hkk
        have HZ := hid hz
        have hkl : kk < al := by have := (List.getElem?_eq_some_iff.1 hz).1; have := HN0.out; omega
        have hkl' : (kk : Int) < (al : Int) := by omega
        have hdr' : headr t = (r : Int) := by unfold headr; rw [hT]; rfl
        rw [hdr'] at c1
        obtain ⟨yc, yk, ys⟩ := y
        unfold hv at ND
        simp only at ND
        clear hT rH hy c6 c9 lii hgi7 hgi8 hz hz1 hzy hkk hdr'
        go_wp2_with fail
        refine ND.out.mono ?_
        rintro e w4 ⟨rfl, e4⟩
        obtain ⟨xb, hxb⟩ : ∃ xb, xb = w4.heap.size := ⟨_, rfl⟩
        have HXB := hid hxb
        have hxbw : w4.heap.size = xb := hxb.symm
        have X4 := hid (show Ex F w w4 pa pm (tk s (k1 + 4)) by rw [← tk_tk]; exact hE.out.stay e4.is e4.kept)
        have X5 := hid (X4.out.plain ((Kept.refl _ _).alloc (.cells #[.int .i64 (yc : Int), .int .i64 yk, .int .i64 ys] 36)))
        have Q5 := hid (show (w4.alloc (.cells #[.int .i64 (yc : Int), .int .i64 yk, .int .i64 ys] 36)).heap[xb]? = some (.cells #[.int .i64 (yc : Int), .int .i64 yk, .int .i64 ys] 36) by rw [hxb]; exact heap_alloc_new w4 _)
        clear e4 ND hxb c0 c1 c3 hlt3
        go_upto_region 14 with fail
        clear hxbw
        generalize w4.alloc (.cells #[.int .i64 (yc : Int), .int .i64 yk, .int .i64 ys] 36) = W at *
        have W5 := hid (HW.out.ex X5.out)
        obtain ⟨c0, _, _, c3, _, _, _, _, _⟩ := W5.out.cells
        rw [HV'.out, ← HN0.out] at c3
        have LZ := hid W5.out.l0
        obtain ⟨b, cap, eb, _, hbW, hPb, d0, d1, d2⟩ := W5.out.l0.at HZ.out
        rw [HV'.out] at LZ eb
        obtain rfl : va = some ⟨b, 0, none⟩ := by injection eb
        have hl0 : L0.length ≤ 1000 := by have := HN0.out; omega
        have LE := hid (fun w1 (k1 : Kept (fun _ => False) W w1) => leastH (.slice (some ⟨b, 0, none⟩) L0.length vc) L0 w1 (LZ.out.kept k1 fun _ _ e => e) hl0)
        rw [← HKK.out, ← HN0.out] at LE
        have hltW := W5.out.lt
        have hxW := lt_of_block Q5.out
        have z0 : W.cell? ⟨xb, 0, none⟩ = some (.int .i64 (yc : Int)) := blk_cell Q5.out rfl
        have z1 : W.cell? ⟨xb, 1, none⟩ = some (.int .i64 yk) := blk_cell Q5.out rfl
        have z2 : W.cell? ⟨xb, 2, none⟩ = some (.int .i64 ys) := blk_cell Q5.out rfl
        replace d0 : W.cell? ⟨b, kk * 3, none⟩ = some (.int .i64 (yc : Int)) := d0
        replace d1 : W.cell? ⟨b, kk * 3 + 1, none⟩ = some (.int .i64 yk) := d1
        replace d2 : W.cell? ⟨b, kk * 3 + 2, none⟩ = some (.int .i64 ys) := d2
        have hE6 := fun w => neq65 (yc : Int) yk ys w
        have hE7 : k1 + 4 ≤ 10 * al + 4 := HKF.out
        clear eb hPb hl0 c0
        go_region_held3 (fun w' => w'.cell? ⟨pw, 3, none⟩ = some (.slice (some ⟨b, 0, none⟩) al vc) ∧ w'.cell? ⟨xb, 0, none⟩ = some (.int .i64 (yc : Int)) ∧ w'.cell? ⟨xb, 1, none⟩ = some (.int .i64 yk) ∧ w'.cell? ⟨xb, 2, none⟩ = some (.int .i64 ys) ∧ w'.cell? ⟨b, kk * 3, none⟩ = some (.int .i64 (yc : Int)) ∧ w'.cell? ⟨b, kk * 3 + 1, none⟩ = some (.int .i64 yk) ∧ w'.cell? ⟨b, kk * 3 + 2, none⟩ = some (.int .i64 ys)) (first | exact ⟨c3, z0, z1, z2, d0, d1, d2⟩)
          (first
            | (go_at_call 33; refine (LE.out _ (by first | exact Kept.refl _ _ | exact (Kept.refl _ _).drew | exact (Kept.refl _ _).drewN _)).mono ?_; rintro e w6 ⟨rfl, k6⟩; replace c3 := (k6.cell (p := ⟨pw, 3, none⟩) hltW (fun e => e)).trans c3; replace z0 := (k6.cell (p := ⟨xb, 0, none⟩) hxW (fun e => e)).trans z0; replace z1 := (k6.cell (p := ⟨xb, 1, none⟩) hxW (fun e => e)).trans z1; replace z2 := (k6.cell (p := ⟨xb, 2, none⟩) hxW (fun e => e)).trans z2; replace d0 := (k6.cell (p := ⟨b, kk * 3, none⟩) hbW (fun e => e)).trans d0; replace d1 := (k6.cell (p := ⟨b, kk * 3 + 1, none⟩) hbW (fun e => e)).trans d1; replace d2 := (k6.cell (p := ⟨b, kk * 3 + 2, none⟩) hbW (fun e => e)).trans d2; have K6 := hid k6; clear k6))
        all_goals
          have XF := hid (X5.out.plain (by first | exact K6.out | exact (Kept.refl _ _).drew.trans' K6.out))
          go_wp2
          go_ret
          exact ⟨rfl, k1 + 4, hE7, XF.out⟩
end Go.Proofs.YtckoglddhkbgkabGreat

/- The laws' shape, of the second heap. -/
namespace Go.Proofs.YtckoglddhkbgkabGreat
open Go.ChangeShapes Go.WideShapes Go.ChangeAt Go.RowKit
open Tr

set_option maxHeartbeats 4000000 in
set_option maxRecDepth 100000 in
theorem shape1 {w0 : Fm} {w : World} {F : Nat → Prop} {pw pa pm : Nat} {v0 v1 : Value} {s : St} {t u : Fq} {L0 L1 : List (Nat × Int × Int)} {nx sp mo : Int} (h : Wx w0 w F pw pa pm v0 v1 s (headr t) (headr u) L0 L1 nx sp mo) (hi : Inv s t u L0 L1) (hl : L1.length ≤ 1000) (hs : s.steps ≤ 70000000) :
    Calls Tryz.prog 37 #[.pointer (some ⟨pw, 0, none⟩), .int .i64 1] w fun e w' => e = .returned (.bool true) ∧ ∃ k, k ≤ 10 * L1.length + 4 ∧ Ex F w w' pa pm (tk s k) := by
  obtain ⟨sz, ht, S, hsum, hring, hnd, hlen, htop⟩ := shp_of hi.b hi.ok
  have HW := hid h
  have HA := hid hi.b
  have OK := hid hi.ok
  have SS := hid S
  have TOP := hid htop
  have RG := hid (ringL1 u.T h hring hnd (fun c hc => (htop c hc).2.1) hi.ok hlen hl (by omega))
  have TR := hid (fun (c : Nat) (w : World) (k0 : Nat) (hc : c ∈ u.T) hw hst => tree1 (w0 := w0) (F := F) (pw := pw) (pa := pa) (pm := pm) (v0 := v0) (v1 := v1) (r0 := headr t) (r1 := headr u) (L0 := L0) (L1 := L1) (nx := nx) (sp := sp) (mo := mo) SS.out hl (ht c + 1) c w k0 (-1) (0, 0, 0) true (Nat.lt_succ_self _) (TOP.out c hc).1 hw (TOP.out c hc).2.2 (Or.inl rfl) hst)
  have HSUM := hid hsum
  obtain ⟨va, vc, hv'⟩ := h.l1.form
  have HV' := hid hv'
  obtain ⟨c0, c1, c2, c3, c4, c5, c6, c7, cf⟩ := h.cells
  have hlt := h.lt
  have FL := hid h.is.lt
  have NFp : Hid (¬ F pw) := h.out
  obtain ⟨n0, hn0⟩ : ∃ z, z = L1.length := ⟨_, rfl⟩
  have HN0 := hid hn0
  obtain ⟨tl, htl⟩ : ∃ z, z = u.T.length := ⟨_, rfl⟩
  have HTL := hid htl
  have HLEN := hid hlen
  have SUMT := hid (fun (j : Nat) (hj : j ≤ tl) => (show ((u.T.take j).map sz).sum + (tl - j) ≤ n0 from by
    have h1 := sum_take' u.T j (fun c hc => (SS.out.le c (TOP.out c hc).1).1) (by have := HTL.out; omega)
    have := HSUM.out
    have := HTL.out
    have := HN0.out
    omega))
  rw [← hn0] at hl ⊢
  have htl1 : tl ≤ 1000 := by rw [htl]; omega
  have htl2 : (nd1 u.T).length ≤ 1000 := by rw [nd1_len]; omega
  have hh : headr u = hdL u.T := rfl
  rw [hh] at c2
  clear h hi c0 c1 c3 c4 c5 c6 c7 cf hn0 hsum hring hnd hlen htop S hh htl
  obtain ⟨dr, hdr⟩ : ∃ dr, dr = hdL u.T := ⟨_, rfl⟩
  rw [← hdr] at RG c2
  have HDR := hid hdr
  clear hdr hv'
  go_enter Tryz.func37, Tryz.ntmps37
  go_wp2_with fail
  refine RG.out.mono ?_
  rintro e w1 ⟨v, rfl, o, k, hk, e1⟩
  obtain ⟨xa, xc, rfl⟩ := own_form o
  have hll : (nd1 u.T).length = u.T.length := nd1_len u.T
  have O1 := hid (show w1.ownsRow w.heap.size 3 1 (.slice xa (nd1 u.T).length xc) (nd1 u.T).length (row int1 (nd1 u.T)) from o)
  rw [hll, ← HTL.out] at O1 ⊢
  have X1 := hid e1
  have HK := hid (show k ≤ 2 * tl by have := HTL.out; omega)
  have hwb : w.heap.size = w.heap.size := rfl
  clear RG o e1 hk hll c2
  go_wp2_with fail
  go_loopw [7, 8] (fun av iv wr => ∃ (i al k1 : Nat), av = .int .i64 (al : Int) ∧ iv = .int .i64 (i : Int) ∧ i ≤ tl ∧ Hid (al = ((u.T.take i).map sz).sum) ∧ Hid (k1 + 2 * i ≤ 2 * tl + 10 * al) ∧ Hid (wr.ownsRow w.heap.size 3 1 (.slice xa tl xc) tl (row int1 (nd1 u.T))) ∧ Hid (Ex F w wr pa pm (tk s k1))) (fun _ iv _ => tl - (intOf iv).toNat)
  case atStart => exact ⟨0, 0, k, rfl, rfl, Nat.zero_le _, hid (by simp), hid (by have := HK.out; omega), O1, X1⟩
  case round =>
    clear X1 O1
    obtain ⟨i, al, k1, rfl, rfl, hi, hal, hk1, ho, hE⟩ := hrel
    by_cases hlt1 : i < tl
    · have hx : u.T[i]? = some (u.T[i]'(by have := HTL.out; omega)) := List.getElem?_eq_getElem _
      generalize (u.T[i]'(by have := HTL.out; omega)) = c at hx
      have hcC : c ∈ u.T := List.mem_of_getElem? hx
      obtain ⟨g, cap, e, hg, _, hcell⟩ := own1_at (l := nd1 u.T) (v := .slice xa tl xc) (by have h := ho.out; rw [nd1_len, ← HTL.out]; exact h) int1_len (nd1_at hx)
      obtain rfl : xa = some ⟨g, 0, none⟩ := by injection e
      replace hcell : wr.cell? ⟨g, i, none⟩ = some (.int .i64 (c : Int)) := hcell
      have TK := hid (show ((u.T.take (i + 1)).map sz).sum = ((u.T.take i).map sz).sum + sz c by rw [List.take_add_one, hx]; simp)
      have S1 := hid (SUMT.out (i + 1) hlt1)
      have WR := hid (HW.out.ex hE.out)
      have T := hid (TR.out c wr k1 hcC WR.out (by have := S1.out; have := TK.out; have := hk1.out; have := hal.out; omega))
      have CZ := hid (SS.out.le c (TOP.out c hcC).1)
      obtain ⟨zc, hzc⟩ : ∃ z, z = sz c := ⟨_, rfl⟩
      rw [← hzc] at T TK
      have hzc1 : 1 ≤ zc := by rw [hzc]; exact CZ.out.1
      have hzc2 : ((zc : Int) == 0) = false := by simp; omega
      have hzz : al + zc ≤ 2000 := by have := S1.out; have := TK.out; have := hal.out; omega
      have hwz : IntKind.i64.wrap ((al : Int) + (zc : Int)) = ((al + zc : Nat) : Int) := by rw [IntWalk.i64_in _ (by omega)]; omega
      have hlt' : (i : Int) < (tl : Int) := by omega
      unfold hv at T
      clear hx hcC hzc CZ
      go_wp2_with fail
      refine T.out.mono ?_
      rintro e w11 ⟨rfl, k2, hk2, e11⟩
      have X11 := hid (hE.out.stay e11.is e11.kept)
      have O11 := hid (own_kept ho.out e11.kept (fun b hb q => by have := FL.out b q; have := (ho.out.lt b hb).1; omega))
      have HK2 := hid hk2
      clear e11 hk2 T hcell
      go_wp2
      go_roundw
      case rel => exact ⟨i + 1, al + zc, k2, rfl, by go_num, by omega, hid (by have := TK.out; have := hal.out; omega), hid (by have := hk1.out; have := HK2.out; omega), O11, X11⟩
      case measure => simp [intOf]; omega
    · obtain rfl : i = tl := by omega
      have hzz : al = n0 := by
        have h1 := hal.out
        rw [List.take_of_length_le (by have := HTL.out; omega)] at h1
        have := HSUM.out
        have := HN0.out
        omega
      subst hzz
      have hge : decide ((i : Int) < (i : Int)) = false := by simp
      have hkf : k1 + 4 ≤ 10 * al + 4 := by have := hk1.out; omega
      have HKF := hid hkf
      clear hal hkf hk1 ho
      obtain ⟨w3, rfl⟩ : ∃ w3, w3 = wr := ⟨_, rfl⟩
      have W3 := hid (HW.out.ex hE.out)
      obtain ⟨c0, _, c1, _, c3, _, _, _, _⟩ := W3.out.cells
      rw [HV'.out, ← HN0.out] at c3
      have hlt3 := W3.out.lt
      cases hT : u.T with
      | nil =>
        have hi0 : i = 0 := by have := HTL.out; rw [hT] at this; simpa using this
        subst hi0
        clear hT c0 c1
        go_wp2
        go_ret
        exact ⟨rfl, k1, by have := HKF.out; omega, hE.out⟩
      | cons r x =>
        have hi1 : 0 < i := by have := HTL.out; rw [hT] at this; simp at this; omega
        have rH : r ∈ u.H := (TOP.out r (by rw [hT]; simp)).1
        obtain ⟨a, y, hy⟩ := SS.out.held r rH
        obtain ⟨c6, c9, lii⟩ := SS.out.it r rH
        have hgi7 : getS s (y.1 : Int) 7 = y.2.1 := by rw [hy.2.1]; exact (get_nat (j := 7) lii (by decide)).trans hy.2.2.2.1
        have hgi8 : getS s (y.1 : Int) 8 = y.2.2 := by rw [hy.2.1]; exact (get_nat (j := 8) lii (by decide)).trans hy.2.2.2.2
        have ND := hid (node1 W3.out (r : Int) a y hy.1 hy.2.2.1 (by rw [show cellS (tk s k1) (r : Int) 6 = cellS s (r : Int) 6 from rfl, c6, hy.2.1]) (by rw [show cellS (tk s k1) (y.1 : Int) 9 = cellS s (y.1 : Int) 9 from rfl, hy.2.1, c9]) hgi7 hgi8 (by have := HN0.out; omega) (by show s.steps + k1 ≤ _; have := HKF.out; omega))
        obtain ⟨z, hz, hz1⟩ := least_item HA.out hT
        have hzy : z = y := by
          obtain ⟨b, yb, hb⟩ := held_node HA.out rH
          have hn := hh_nodup HA.out
          have e1 : z.1 = y.1 := by rw [hz1, hy.2.1]
          rcases List.mem_iff_getElem?.1 (List.mem_of_getElem? hz) with ⟨q1, hq1⟩
          have hq2 := List.getElem?_eq_some_iff.1 hq1
          have hq3 := List.getElem?_eq_some_iff.1 hy.1
          rcases Nat.lt_trichotomy q1 a with q | q | q
          · exact absurd e1 (hy.2.2.1 q1 z q hq1)
          · have h2 := hy.1
            rw [← q, hq1] at h2
            injection h2
          · have := (List.pairwise_iff_getElem.1 hn) a q1 (by simpa using hq3.1) (by simpa using hq2.1) q
            simp only [List.getElem_map] at this
            rw [hq2.2, hq3.2] at this
            exact absurd e1.symm this
        rw [hzy] at hz
        obtain ⟨kk, hkk⟩ : ∃ kk, kk = lstS L1 (L1.length - 1) := ⟨_, rfl⟩
        rw [← hkk] at hz
        have HKK := hid hkk
        have HZ := hid hz
        have hkl : kk < al := by have := (List.getElem?_eq_some_iff.1 hz).1; have := HN0.out; omega
        have hkl' : (kk : Int) < (al : Int) := by omega
        have hdr' : headr u = (r : Int) := by unfold headr; rw [hT]; rfl
        rw [hdr'] at c1
        obtain ⟨yc, yk, ys⟩ := y
        unfold hv at ND
        simp only at ND
        clear hT rH hy c6 c9 lii hgi7 hgi8 hz hz1 hzy hkk hdr'
        go_wp2_with fail
        refine ND.out.mono ?_
        rintro e w4 ⟨rfl, e4⟩
        obtain ⟨xb, hxb⟩ : ∃ xb, xb = w4.heap.size := ⟨_, rfl⟩
        have HXB := hid hxb
        have hxbw : w4.heap.size = xb := hxb.symm
        have X4 := hid (show Ex F w w4 pa pm (tk s (k1 + 4)) by rw [← tk_tk]; exact hE.out.stay e4.is e4.kept)
        have X5 := hid (X4.out.plain ((Kept.refl _ _).alloc (.cells #[.int .i64 (yc : Int), .int .i64 yk, .int .i64 ys] 36)))
        have Q5 := hid (show (w4.alloc (.cells #[.int .i64 (yc : Int), .int .i64 yk, .int .i64 ys] 36)).heap[xb]? = some (.cells #[.int .i64 (yc : Int), .int .i64 yk, .int .i64 ys] 36) by rw [hxb]; exact heap_alloc_new w4 _)
        clear e4 ND hxb c0 c1 c3 hlt3
        go_upto_region 14 with fail
        clear hxbw
        generalize w4.alloc (.cells #[.int .i64 (yc : Int), .int .i64 yk, .int .i64 ys] 36) = W at *
        have W5 := hid (HW.out.ex X5.out)
        obtain ⟨c0, _, _, _, c3, _, _, _, _⟩ := W5.out.cells
        rw [HV'.out, ← HN0.out] at c3
        have LZ := hid W5.out.l1
        obtain ⟨b, cap, eb, _, hbW, hPb, d0, d1, d2⟩ := W5.out.l1.at HZ.out
        rw [HV'.out] at LZ eb
        obtain rfl : va = some ⟨b, 0, none⟩ := by injection eb
        have hl0 : L1.length ≤ 1000 := by have := HN0.out; omega
        have LE := hid (fun w1 (k1 : Kept (fun _ => False) W w1) => leastH (.slice (some ⟨b, 0, none⟩) L1.length vc) L1 w1 (LZ.out.kept k1 fun _ _ e => e) hl0)
        rw [← HKK.out, ← HN0.out] at LE
        have hltW := W5.out.lt
        have hxW := lt_of_block Q5.out
        have z0 : W.cell? ⟨xb, 0, none⟩ = some (.int .i64 (yc : Int)) := blk_cell Q5.out rfl
        have z1 : W.cell? ⟨xb, 1, none⟩ = some (.int .i64 yk) := blk_cell Q5.out rfl
        have z2 : W.cell? ⟨xb, 2, none⟩ = some (.int .i64 ys) := blk_cell Q5.out rfl
        replace d0 : W.cell? ⟨b, kk * 3, none⟩ = some (.int .i64 (yc : Int)) := d0
        replace d1 : W.cell? ⟨b, kk * 3 + 1, none⟩ = some (.int .i64 yk) := d1
        replace d2 : W.cell? ⟨b, kk * 3 + 2, none⟩ = some (.int .i64 ys) := d2
        have hE6 := fun w => neq65 (yc : Int) yk ys w
        have hE7 : k1 + 4 ≤ 10 * al + 4 := HKF.out
        clear eb hPb hl0 c0
        go_region_held3 (fun w' => w'.cell? ⟨pw, 4, none⟩ = some (.slice (some ⟨b, 0, none⟩) al vc) ∧ w'.cell? ⟨xb, 0, none⟩ = some (.int .i64 (yc : Int)) ∧ w'.cell? ⟨xb, 1, none⟩ = some (.int .i64 yk) ∧ w'.cell? ⟨xb, 2, none⟩ = some (.int .i64 ys) ∧ w'.cell? ⟨b, kk * 3, none⟩ = some (.int .i64 (yc : Int)) ∧ w'.cell? ⟨b, kk * 3 + 1, none⟩ = some (.int .i64 yk) ∧ w'.cell? ⟨b, kk * 3 + 2, none⟩ = some (.int .i64 ys)) (first | exact ⟨c3, z0, z1, z2, d0, d1, d2⟩)
          (first
            | (go_at_call 33; refine (LE.out _ (by first | exact Kept.refl _ _ | exact (Kept.refl _ _).drew | exact (Kept.refl _ _).drewN _)).mono ?_; rintro e w6 ⟨rfl, k6⟩; replace c3 := (k6.cell (p := ⟨pw, 4, none⟩) hltW (fun e => e)).trans c3; replace z0 := (k6.cell (p := ⟨xb, 0, none⟩) hxW (fun e => e)).trans z0; replace z1 := (k6.cell (p := ⟨xb, 1, none⟩) hxW (fun e => e)).trans z1; replace z2 := (k6.cell (p := ⟨xb, 2, none⟩) hxW (fun e => e)).trans z2; replace d0 := (k6.cell (p := ⟨b, kk * 3, none⟩) hbW (fun e => e)).trans d0; replace d1 := (k6.cell (p := ⟨b, kk * 3 + 1, none⟩) hbW (fun e => e)).trans d1; replace d2 := (k6.cell (p := ⟨b, kk * 3 + 2, none⟩) hbW (fun e => e)).trans d2; have K6 := hid k6; clear k6))
        all_goals
          have XF := hid (X5.out.plain (by first | exact K6.out | exact (Kept.refl _ _).drew.trans' K6.out))
          go_wp2
          go_ret
          exact ⟨rfl, k1 + 4, hE7, XF.out⟩
end Go.Proofs.YtckoglddhkbgkabGreat
