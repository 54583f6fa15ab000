/- The laws' push, where there is room. -/
import Derived.Test.YthfdooigljkfiabLt
namespace Go.Proofs.Ythfdooigljkfiab
open Go.ChangeShapes Go.WideShapes Go.ChangeAt Go.RowKit
open Tr

set_option maxHeartbeats 8000000 in
set_option maxRecDepth 100000 in
theorem push0 {w0 : Fm} {w : World} {pw N K : Nat} {L0 L1 : List (Nat × Int × Int)} {nx : Int} (h : Sit w0 w pw N K L0 L1 nx) (hroom : 2 * (L0.length + L1.length) + 2 ≤ N) (hl : L0.length ≤ 699) (hnx : 0 ≤ nx ∧ nx ≤ 1000000) (hK : K ≤ 90000000) (key : Int) :
    Calls Try.prog 6 #[.pointer (some ⟨pw, 0, none⟩), .int .i64 0, .int .i64 key] w fun e w' => e = .returned (.bool true) ∧ ∃ i, Sit w0 w' pw N (K + 1500) (L0 ++ [(i, key, nx)]) L1 (nx + 1) := by
  obtain ⟨F, pa, pm, v0, v1, s, t, u, sp, mo, hw, hi, hk, hm⟩ := h
  have hx0 : 0 ≤ nextS s := (room_iff hi.ok).2 (by rw [hi.num, hm]; omega)
  obtain ⟨i, ei, h1, k7, k8, pn⟩ := new_inv hi key nx hx0
  have hx1 : 0 ≤ nextS (newS s key nx) := (room_iff h1.ok).2 (by rw [h1.num, new_most, hm]; omega)
  have b20 := bts_le 20 (L0.length + 1) (by omega)
  have HW := hid hw
  have PN := hid pn
  clear pn
  have NW := hid (fun w1 (k1 : Kept (fun _ => False) w w1) => newT key nx ((Aft.start hw.is).plain k1) (by omega))
  rw [ei] at NW
  simp only [Int.natCast_nonneg, decide_true] at NW
  have ST1 := hid (new_steps hx0 key nx)
  have MO1 := hid ((new_most s key nx).trans hm)
  have CN1 := hid h1.num
  have PU := hid (fun (F1 : Nat → Prop) (wa wb : World) (ha : Aft F1 wa wb pa pm (newS s key nx)) => pushC h1 hx1 (by rw [new_steps hx0]; omega) ha)
  rw [k7, k8] at PU
  obtain ⟨c0, c1, c2, c3, c4, c5, c6, c7, cf⟩ := hw.cells
  have hlt := hw.lt
  have hout := hid hw.out
  obtain ⟨va, vc, hv'⟩ := hw.l0.form
  subst hv'
  obtain ⟨vb, vd, hvb⟩ := hw.l1.form
  subst hvb
  have hrm := room_two hi
  have htop := hi.ok.top
  obtain ⟨ln2, hln2⟩ : ∃ z, z = L1.length := ⟨_, rfl⟩
  have HLN2 := hid hln2
  obtain ⟨m0, hm0⟩ : ∃ z, z = L0.length + ln2 := ⟨_, rfl⟩
  have HM0 := hid hm0
  obtain ⟨mm, hmm⟩ : ∃ z, z = m0 + 1 := ⟨_, rfl⟩
  have HMM := hid hmm
  have hmm4 : mm ≤ 40001 := by omega
  have HM4 := hid hmm4
  have BM1 := hid (bts_le 16 mm (by omega))
  have BMM := hid (bts_mono (show L0.length + 1 ≤ mm by omega))
  have HB11 := hid (bts_le 11 (L0.length + 1) (by omega))
  have hwm0 : IntKind.i64.wrap (m0 : Int) = (m0 : Int) := IntWalk.i64_in _ (by omega)
  have hwm : IntKind.i64.wrap (mm : Int) = (mm : Int) := IntWalk.i64_in _ (by omega)
  have hl1 : (m0 : Int) + 1 = (mm : Int) := by omega
  clear hrm htop hln2 hmm hm0
  have HKK := hid hk
  have OK1 := hid h1.ok
  obtain ⟨len, hlen⟩ : ∃ len, len = L0.length := ⟨_, rfl⟩
  have HLN := hid hlen
  rw [← hlen] at c3 hl b20
  have h10w : IntKind.i64.wrap 1 = 1 := by decide
  have hsum : (len : Int) + (ln2 : Int) = (m0 : Int) := by have := HM0.out; omega
  generalize newS s key nx = s1 at *
  have HRM := hid hroom
  clear k7 k8 hlen hroom
  clear hw hi hk hm h1 hx0 hx1 ei
  obtain ⟨hnx0, hnx1⟩ := hnx
  go_enter Try.func6, Try.ntmps6
  go_wp2_with fail
  go_region_held3 (fun w' => w'.cell? ⟨pw, 0, none⟩ = some (.pointer (some ⟨pa, 0, none⟩)) ∧ w'.cell? ⟨pw, 5, none⟩ = some (.int .i64 nx)) (first | exact ⟨c0, c5⟩ | (simp [go_sem]; exact ⟨c0, c5⟩))
    (first
      | (go_at_call 14; refine (NW.out _ (by first | exact Kept.refl _ _ | exact (Kept.refl _ _).drew | exact (Kept.refl _ _).drewN _)).mono ?_; rintro e w3 ⟨rfl, e3⟩; replace c0 := (e3.kept.cell (p := ⟨pw, 0, none⟩) hlt hout.out).trans c0; replace c5 := (e3.kept.cell (p := ⟨pw, 5, none⟩) hlt hout.out).trans c5; have E3 := hid e3; clear e3))
  have W3 := hid (HW.out.aft E3.out)
  clear c0 c1 c2 c3 c4 c5 c6 c7 cf hout HW NW
  generalize Grow F w w3 = F1 at W3
  clear E3
  obtain ⟨cc, hcc⟩ : ∃ cc, cc = cnt s1.pl := ⟨_, rfl⟩
  have hcN : cc < N := by rw [hcc, CN1.out]; have := HRM.out; omega
  have LN := hid (fun q => lenA pa pm s1 F1 (w3.drewN q) (W3.out.is.drewN q))
  have CL := hid (fun q => cellsA pa pm s1 F1 (w3.drewN q) (W3.out.is.drewN q))
  rw [← hcc] at LN
  rw [MO1.out] at CL
  have hcN' : (cc : Int) < (N : Int) := by omega
  clear hcc
  obtain ⟨c0, c1, c2, c3, c4, c5, c6, c7, cf⟩ := W3.out.cells
  rw [← HLN.out] at c3
  have hlt3 := W3.out.lt
  clear c1 c2 c3 c4 c5 c6 c7 cf
  go_wp2_with fail
  go_quiet
    (first
      | (go_at_call 23; refine Calls.quiet_of (LN.out _))
      | (go_at_call 25; refine Calls.quiet_of_same (CL.out _)))
  have W4 := hid (W3.out.drewN nq)
  clear LN CL c0 W3 hlt3
  generalize w3.drewN nq = w4 at *
  have M := hid (meterA pa pm s1 F1 w4 W4.out.is)
  have T := hid (stepsA pa pm s1 F1 w4 W4.out.is)
  obtain ⟨q, hq⟩ : ∃ q, q = s1.steps := ⟨_, rfl⟩
  rw [← hq] at T
  have HQ := hid hq
  have hq1 : q ≤ 90000010 := by rw [hq, ST1.out]; have := HKK.out; omega
  clear hq
  obtain ⟨c0, c1, c2, c3, c4, c5, c6, c7, cf⟩ := W4.out.cells
  have hlt := W4.out.lt
  have hout := hid W4.out.out
  clear c3 c4 c5 c6 c7 cf
  go_wp2_with fail
  refine M.out.mono ?_
  rintro e wA ⟨rfl, rfl⟩
  go_wp2_with fail
  refine T.out.mono ?_
  rintro e wB ⟨rfl, rfl⟩
  clear M T
  go_wp2_with fail
  go_region_held3 (fun w' => w'.cell? ⟨pw, 0, none⟩ = some (.pointer (some ⟨pa, 0, none⟩)) ∧ w'.cell? ⟨pw, 1, none⟩ = some (.int .i64 (headr t))) (first | exact ⟨c0, c1⟩ | (simp [go_sem]; exact ⟨c0, c1⟩))
    (first
      | (go_at_call 17; refine (PU.out F1 wB _ ((Aft.start W4.out.is).plain (by first | exact Kept.refl _ _ | exact (Kept.refl _ _).drew | exact (Kept.refl _ _).drewN _))).mono ?_; rintro e w5 ⟨t', s3, rfl, e5, i3, m3, st1, st2⟩; have HIN := hid i3; have MO := hid (m3.trans MO1.out); have ST2 := hid st1; have ST := hid st2; clear i3 m3 st1 st2; replace c0 := (e5.kept.cell (p := ⟨pw, 0, none⟩) hlt hout.out).trans c0; replace c1 := (e5.kept.cell (p := ⟨pw, 1, none⟩) hlt hout.out).trans c1; have E5 := hid e5; clear e5))
  generalize hrt : headr t' = m at *
  have HRT := hid hrt.symm
  rw [← HQ.out] at ST ST2
  clear hrt PU
  have W5 := hid (W4.out.aft E5.out)
  clear c0 c1 c2 hout W4
  generalize Grow F1 wB w5 = G at W5
  clear E5
  have C := hid (fun w1 (k1 : Kept (fun _ => False) w5 w1) => costW mm q sp mo (by have := HM4.out; omega) (W5.out.plain k1) ST2.out (by show s3.steps ≤ 100000000; have := HB11.out; have := BMM.out; have := BM1.out; have := ST.out; have := PN.out; have := HKK.out; have := ST1.out; have := HQ.out; omega) (by have := HKK.out; omega) (by have := HB11.out; have := BMM.out; have := BM1.out; have := ST.out; have := PN.out; have := HKK.out; have := ST1.out; have := HQ.out; omega))
  obtain ⟨c0, c1, c2, c3, c4, c5, c6, c7, cf⟩ := W5.out.cells
  rw [← HLN.out] at c3
  rw [← HLN2.out] at c4
  rw [← HLN.out] at C
  rw [← HLN2.out] at C
  have hlt5 := W5.out.lt
  clear c0 c1 c2 c5 c6 c7 cf
  go_wp2_with fail
  go_region_held3 (fun w' => w'.cell? ⟨pw, 3, none⟩ = some (.slice va len vc) ∧ w'.cell? ⟨pw, 4, none⟩ = some (.slice vb ln2 vd)) (first | exact ⟨c3, c4⟩)
    (first
      | (go_at_call 18; refine (C.out _ (by first | exact Kept.refl _ _ | exact (Kept.refl _ _).drew | exact (Kept.refl _ _).drewN _)).mono ?_; rintro e w6 ⟨rfl, sp2, mo2, hs2, hm2, h6⟩; have HS2 := hid hs2; have HM2 := hid hm2; clear hs2 hm2; replace c3 := h6.cells.2.2.2.1; replace c4 := h6.cells.2.2.2.2.1; have W6 := hid h6; clear h6))
  clear C c3 c4 W5 hlt5
  obtain ⟨c0, c1, c2, c3, c4, c5, c6, c7, cf⟩ := W6.out.cells
  have hlt6 := W6.out.lt
  have fR := cf 1
  have kk := kept_pw w6 pw 1 (.int .i64 m)
  have HC := hid (W6.out.wrote (r0' := m) kk (by have b1 := blk_set (j := 1) (u := .int .i64 m) W6.out.blk; simp at b1; exact b1) (W6.out.l0.kept kk fun _ q => q.2) (W6.out.l1.kept kk fun _ q => q.2))
  clear kk c0 c3 c4 c5 c6 c7 cf hl1 hwm hwm0 hsum
  go_upto_region 12 with fail
  clear W6 hlt6 fR c1 c2
  generalize w6.setCell ⟨pw, 1, none⟩ (.int .i64 m) = wC at *
  obtain ⟨_, _, _, dd3, dd4, d5, _, _, dcf⟩ := HC.out.cells
  have dV := dd3
  have hlC := HC.out.lt
  have fVC := dcf 3
  clear dd3 dd4 dcf
  refine wp_region_noPanic ?_
  refine tl_begin (S := (fun w' => w'.cell? ⟨pw, 3, none⟩ = some (.slice va len vc) ∧ w'.cell? ⟨pw, 5, none⟩ = some (.int .i64 nx))) 23 (by kernel_rfl) ?_
  have hHeld : wC.drew.cell? ⟨pw, 3, none⟩ = some (.slice va len vc) ∧ wC.drew.cell? ⟨pw, 5, none⟩ = some (.int .i64 nx) := ⟨dV, d5⟩
  have WD := hid (HC.out.drewN 1)
  have hlW : pw < wC.drew.heap.size := hlC
  have S1 := hid (show Sz wC.drew.heap.size wC.drew (.slice va len vc) L0 from WD.out.l0.src)
  have HH := hid hHeld
  have fV : wC.drew.frozen? ⟨pw, 3, none⟩ = false := fVC
  replace WD : Hid (Wx w0 wC.drew G pw pa pm (.slice va len vc) (.slice vb ln2 vd) s3 m (headr u) L0 L1 nx (sp2 : Int) (mo2 : Int)) := WD.out
  clear HC dV d5 fVC hlC
  generalize wC.drew = W at *
  refine tl_take 0 121 (.pointer (some ⟨pw, 0, none⟩)) rfl rfl (by kernel_rfl) (by kernel_rfl) (by kernel_rfl) (fun _ _ _ h => h) (by decide) (by kernel_rfl) (by kernel_rfl) (by rfl) (fun wS hS => by (try dsimp only at hS); go_split_ands; go_simp) (by assumption) ?_
  simp only [Act.put, List.setIfInBounds_toArray, List.set_cons_zero, List.set_cons_succ]
  refine tl_take 1 122 (.int .i64 0) rfl rfl (by kernel_rfl) (by kernel_rfl) (by kernel_rfl) (fun _ _ _ h => h) (by decide) (by kernel_rfl) (by kernel_rfl) (by rfl) (fun wS hS => by (try dsimp only at hS); go_split_ands; go_simp) (by assumption) ?_
  simp only [Act.put, List.setIfInBounds_toArray, List.set_cons_zero, List.set_cons_succ]
  refine tl_take 3 124 (.pointer (some ⟨pw, 0, none⟩)) rfl rfl (by kernel_rfl) (by kernel_rfl) (by kernel_rfl) (fun _ _ _ h => h) (by decide) (by kernel_rfl) (by kernel_rfl) (by rfl) (fun wS hS => by (try dsimp only at hS); go_split_ands; go_simp) (by assumption) ?_
  simp only [Act.put, List.setIfInBounds_toArray, List.set_cons_zero, List.set_cons_succ]
  refine tl_take 4 125 (.int .i64 0) rfl rfl (by kernel_rfl) (by kernel_rfl) (by kernel_rfl) (fun _ _ _ h => h) (by decide) (by kernel_rfl) (by kernel_rfl) (by rfl) (fun wS hS => by (try dsimp only at hS); go_split_ands; go_simp) (by assumption) ?_
  simp only [Act.put, List.setIfInBounds_toArray, List.set_cons_zero, List.set_cons_succ]
  refine tl_take 5 126 (.pointer (some ⟨pw, 0, none⟩)) rfl rfl (by kernel_rfl) (by kernel_rfl) (by kernel_rfl) (fun _ _ _ h => h) (by decide) (by kernel_rfl) (by kernel_rfl) (by rfl) (fun wS hS => by (try dsimp only at hS); go_split_ands; go_simp) (by assumption) ?_
  simp only [Act.put, List.setIfInBounds_toArray, List.set_cons_zero, List.set_cons_succ]
  refine tl_take 6 127 (.pointer (some ⟨pw, 3, none⟩)) rfl rfl (by kernel_rfl) (by kernel_rfl) (by kernel_rfl) (fun _ _ _ h => h) (by decide) (by kernel_rfl) (by kernel_rfl) (by rfl) (fun wS hS => by (try dsimp only at hS); go_split_ands; go_simp) (by assumption) ?_
  simp only [Act.put, List.setIfInBounds_toArray, List.set_cons_zero, List.set_cons_succ]
  refine tl_take 7 128 (.pointer (some ⟨pw, 3, none⟩)) rfl rfl (by kernel_rfl) (by kernel_rfl) (by kernel_rfl) (fun _ _ _ h => h) (by decide) (by kernel_rfl) (by kernel_rfl) (by rfl) (fun wS hS => by (try dsimp only at hS); go_split_ands; go_simp) (by assumption) ?_
  simp only [Act.put, List.setIfInBounds_toArray, List.set_cons_zero, List.set_cons_succ]
  refine tl_take 8 129 (.slice va len vc) rfl rfl (by kernel_rfl) (by kernel_rfl) (by kernel_rfl) (fun _ _ _ h => h) (by decide) (by kernel_rfl) (by kernel_rfl) (by rfl) (fun wS hS => by (try dsimp only at hS); go_split_ands; go_simp) (by assumption) ?_
  simp only [Act.put, List.setIfInBounds_toArray, List.set_cons_zero, List.set_cons_succ]
  refine tl_take 10 131 (.int .i64 (i : Int)) rfl rfl (by kernel_rfl) (by kernel_rfl) (by kernel_rfl) (fun _ _ _ h => h) (by decide) (by kernel_rfl) (by kernel_rfl) (by rfl) (fun wS hS => by (try dsimp only at hS); go_split_ands; go_simp) (by assumption) ?_
  simp only [Act.put, List.setIfInBounds_toArray, List.set_cons_zero, List.set_cons_succ]
  refine tl_take 11 132 (.int .i64 key) rfl rfl (by kernel_rfl) (by kernel_rfl) (by kernel_rfl) (fun _ _ _ h => h) (by decide) (by kernel_rfl) (by kernel_rfl) (by rfl) (fun wS hS => by (try dsimp only at hS); go_split_ands; go_simp) (by assumption) ?_
  simp only [Act.put, List.setIfInBounds_toArray, List.set_cons_zero, List.set_cons_succ]
  refine tl_take 12 133 (.pointer (some ⟨pw, 0, none⟩)) rfl rfl (by kernel_rfl) (by kernel_rfl) (by kernel_rfl) (fun _ _ _ h => h) (by decide) (by kernel_rfl) (by kernel_rfl) (by rfl) (fun wS hS => by (try dsimp only at hS); go_split_ands; go_simp) (by assumption) ?_
  simp only [Act.put, List.setIfInBounds_toArray, List.set_cons_zero, List.set_cons_succ]
  refine tl_take 13 134 (.pointer (some ⟨pw, 0, none⟩)) rfl rfl (by kernel_rfl) (by kernel_rfl) (by kernel_rfl) (fun _ _ _ h => h) (by decide) (by kernel_rfl) (by kernel_rfl) (by rfl) (fun wS hS => by (try dsimp only at hS); go_split_ands; go_simp) (by assumption) ?_
  simp only [Act.put, List.setIfInBounds_toArray, List.set_cons_zero, List.set_cons_succ]
  refine tl_take 14 135 (.pointer (some ⟨pw, 5, none⟩)) rfl rfl (by kernel_rfl) (by kernel_rfl) (by kernel_rfl) (fun _ _ _ h => h) (by decide) (by kernel_rfl) (by kernel_rfl) (by rfl) (fun wS hS => by (try dsimp only at hS); go_split_ands; go_simp) (by assumption) ?_
  simp only [Act.put, List.setIfInBounds_toArray, List.set_cons_zero, List.set_cons_succ]
  refine tl_take 15 136 (.int .i64 nx) rfl rfl (by kernel_rfl) (by kernel_rfl) (by kernel_rfl) (fun _ _ _ h => h) (by decide) (by kernel_rfl) (by kernel_rfl) (by rfl) (fun wS hS => by (try dsimp only at hS); go_split_ands; go_simp) (by assumption) ?_
  simp only [Act.put, List.setIfInBounds_toArray, List.set_cons_zero, List.set_cons_succ]
  refine tl_take 16 137 (.agg #[.int .i64 key, .int .i64 nx]) rfl rfl (by kernel_rfl) (by kernel_rfl) (by kernel_rfl) (fun _ _ _ h => h) (by decide) (by kernel_rfl) (by kernel_rfl) (by rfl) (fun wS hS => by (try dsimp only at hS); go_split_ands; go_simp) (by assumption) ?_
  simp only [Act.put, List.setIfInBounds_toArray, List.set_cons_zero, List.set_cons_succ]
  refine tl_take 17 138 (.agg #[.int .i64 (i : Int), .int .i64 key, .int .i64 nx]) rfl rfl (by kernel_rfl) (by kernel_rfl) (by kernel_rfl) (fun _ _ _ h => h) (by decide) (by kernel_rfl) (by kernel_rfl) (by rfl) (fun wS hS => by (try dsimp only at hS); go_split_ands; go_simp) (by assumption) ?_
  simp only [Act.put, List.setIfInBounds_toArray, List.set_cons_zero, List.set_cons_succ]
  refine tl_any 20 141 (.pointer (some ⟨pw, 0, none⟩)) rfl rfl (by kernel_rfl) (by kernel_rfl) (by kernel_rfl) (fun _ _ _ h => h) (by decide) (by rfl) (fun wS => by go_simp) (by assumption) ?_
  simp only [Act.put, List.setIfInBounds_toArray, List.set_cons_zero, List.set_cons_succ]
  refine tl_any 21 142 (.pointer (some ⟨pw, 3, none⟩)) rfl rfl (by kernel_rfl) (by kernel_rfl) (by kernel_rfl) (fun _ _ _ h => h) (by decide) (by rfl) (fun wS => by go_simp) (by assumption) ?_
  simp only [Act.put, List.setIfInBounds_toArray, List.set_cons_zero, List.set_cons_succ]
  clear hHeld
  refine tl_ready (rs := [2, 18]) (by kernel_rfl) (by simp) ?_
  refine AllT.cons rfl (fun K hK => ?_) (AllT.cons rfl (fun K hK => ?_) AllT.nil)
  · go_simp
    go_wp2_with fail
    refine hK.out _ _ (fun _ => ⟨(((Kept.refl (fun _ => False) W).alloc _).cell (p := ⟨pw, 3, none⟩) hlW (fun e => e)).trans HH.out.1, (((Kept.refl (fun _ => False) W).alloc _).cell (p := ⟨pw, 5, none⟩) hlW (fun e => e)).trans HH.out.2⟩) ?_
    clear hK K
    refine tl_ready (rs := [9, 18]) (by kernel_rfl) (by simp) ?_
    refine AllT.cons rfl (fun K hK => ?_) (AllT.cons rfl (fun K hK => ?_) AllT.nil)
    · refine step_append_sz rfl (.tmp 123) (.tmp 129) rfl W.heap.size W.heap.size _ _ 0 [] L0 rfl rfl (by exact lit3 W (Nat.le_refl _)) (by exact S1.out.kept ((Kept.refl (fun _ => False) W).alloc _).plain0) (by have := HLN.out; omega) (by simp <;> omega) ?_
      intro v3 w3 o3 g3
      have K3 := hid (((Kept.refl (fun _ => False) W).alloc _).grown g3 (fun k hk => Or.inr (by cases hk; simp <;> omega)))
      have O3 := hid o3
      clear o3 g3
      go_wp2_with fail
      refine hK.out _ _ (fun _ => ⟨(K3.out.cell (p := ⟨pw, 3, none⟩) hlW (fun e => e)).trans HH.out.1, (K3.out.cell (p := ⟨pw, 5, none⟩) hlW (fun e => e)).trans HH.out.2⟩) ?_
      clear hK K
      refine tl_ready (rs := [18]) (by kernel_rfl) (by simp) ?_
      refine AllT.cons rfl (fun K hK => ?_) AllT.nil
      go_simp
      go_wp2_with fail
      refine hK.out _ _ (fun _ => ⟨((K3.out.alloc _).cell (p := ⟨pw, 3, none⟩) hlW (fun e => e)).trans HH.out.1, ((K3.out.alloc _).cell (p := ⟨pw, 5, none⟩) hlW (fun e => e)).trans HH.out.2⟩) ?_
      clear hK K
      refine tl_ready (rs := [19]) (by kernel_rfl) (by simp) ?_
      refine AllT.cons rfl (fun K hK => ?_) AllT.nil
      refine step_append_sz rfl (.tmp 130) (.tmp 139) rfl W.heap.size _ v3 _ (0 + L0.length) ([] ++ row h3 L0) [(i, key, nx)] rfl rfl (by exact World.ownsRow.alloc O3.out _) (by exact Sz.one _ _) (by have := HLN.out; show 0 + L0.length + 1 ≤ 1000000; omega) (by exact (K3.out.alloc _).size) ?_
      intro v4 w4 o4 g4
      have K4 := hid ((K3.out.alloc _).grown g4 (fun k hk => Or.inr (O3.out.lt k hk).1))
      have O4 := hid o4
      obtain ⟨va4, vc4, rfl⟩ := own_form o4
      clear o4 g4
      generalize hn4 : 0 + L0.length + [(i, key, nx)].length = n4 at *
      have HN4 := hid hn4
      clear hn4
      go_wp2_with fail
      refine hK.out _ _ (fun _ => ⟨(K4.out.cell (p := ⟨pw, 3, none⟩) hlW (fun e => e)).trans HH.out.1, (K4.out.cell (p := ⟨pw, 5, none⟩) hlW (fun e => e)).trans HH.out.2⟩) ?_
      clear hK K
      have hHeld : w4.cell? ⟨pw, 3, none⟩ = some (.slice va len vc) ∧ w4.cell? ⟨pw, 5, none⟩ = some (.int .i64 nx) := ⟨(K4.out.cell (p := ⟨pw, 3, none⟩) hlW (fun e => e)).trans HH.out.1, (K4.out.cell (p := ⟨pw, 5, none⟩) hlW (fun e => e)).trans HH.out.2⟩
      refine tl_take 22 143 (.pointer (some ⟨pw, 3, none⟩)) rfl rfl (by kernel_rfl) (by kernel_rfl) (by kernel_rfl) (fun _ _ _ h => h) (by decide) (by kernel_rfl) (by kernel_rfl) (by rfl) (fun wS hS => by (try dsimp only at hS); go_split_ands; go_simp) (by assumption) ?_
      simp only [Act.put, List.setIfInBounds_toArray]
      clear hHeld
      have fV4 : w4.frozen? ⟨pw, 3, none⟩ = false := (World.frozen?_of_block (K4.out.block pw hlW (fun e => e))).trans fV
      have cV4 := (K4.out.cell (p := ⟨pw, 3, none⟩) hlW (fun e => e)).trans HH.out.1
      have hl4 := Nat.lt_of_lt_of_le hlW K4.out.size
      have c54 := (K4.out.cell (p := ⟨pw, 5, none⟩) hlW (fun e => e)).trans HH.out.2
      have f54 : w4.frozen? ⟨pw, 5, none⟩ = false := blk_free (WD.out.plain K4.out).blk
      refine tl_ready (rs := [23]) (by kernel_rfl) (by simp) ?_
      refine AllT.cons rfl (fun K hK => ?_) AllT.nil
      go_simp
      refine hK.out _ _ (fun h => Bool.noConfusion (show true = false from h)) ?_
      clear hK K
      refine tl_done (by kernel_rfl) ?_ _
      refine NoPanic.normal ?_
      go_wp2
      go_ret
      have er : row h3 (L0 ++ [(i, key, nx)]) = [] ++ row h3 L0 ++ row h3 [(i, key, nx)] := by rw [row_append]; simp
      have el : (L0 ++ [(i, key, nx)]).length = n4 := by rw [← HN4.out]; simp
      have W4 := WD.out.plain K4.out
      have LZ : Lz (fun b => ¬ G b ∧ b ≠ pw) w4 (.slice va4 n4 vc4) (L0 ++ [(i, key, nx)]) := Lz.of_own (base := W.heap.size) (by rw [er, el]; exact O4.out) (fun b hb _ => ⟨fun z => by have := WD.out.is.lt b z; omega, by omega⟩)
      have kk1 := kept_pw w4 pw 3 (.slice va4 n4 vc4)
      have W5 := W4.wrote (v0' := .slice va4 n4 vc4) kk1 (by have b1 := blk_set (j := 3) (u := .slice va4 n4 vc4) W4.blk; simp at b1; exact b1) (LZ.kept kk1 fun _ q => q.2) (W4.l1.kept kk1 fun _ q => q.2)
      have kk2 := kept_pw (w4.setCell ⟨pw, 3, none⟩ (.slice va4 n4 vc4)) pw 5 (.int .i64 (nx + 1))
      have W6 := W5.wrote (nx' := nx + 1) kk2 (by have b1 := blk_set (j := 5) (u := .int .i64 (nx + 1)) W5.blk; simp at b1; exact b1) (W5.l0.kept kk2 fun _ q => q.2) (W5.l1.kept kk2 fun _ q => q.2)
      rw [HRT.out] at W6
      exact ⟨rfl, i, G, pa, pm, _, _, _, _, _, sp2, mo2, W6, HIN.out, by have := ST.out; have := PN.out; have := HKK.out; have := ST1.out; have := HQ.out; have := ST2.out; have := HS2.out; have := HM2.out; have := HB11.out; have := BMM.out; have := BM1.out; omega, MO.out⟩
    · go_simp
      go_wp2_with fail
      refine hK.out _ _ (fun _ => ⟨((((Kept.refl (fun _ => False) W).alloc _).alloc _).cell (p := ⟨pw, 3, none⟩) hlW (fun e => e)).trans HH.out.1, ((((Kept.refl (fun _ => False) W).alloc _).alloc _).cell (p := ⟨pw, 5, none⟩) hlW (fun e => e)).trans HH.out.2⟩) ?_
      clear hK K
      refine tl_ready (rs := [9]) (by kernel_rfl) (by simp) ?_
      refine AllT.cons rfl (fun K hK => ?_) AllT.nil
      refine step_append_sz rfl (.tmp 123) (.tmp 129) rfl W.heap.size W.heap.size _ _ 0 [] L0 rfl rfl (by exact World.ownsRow.alloc (lit3 W (Nat.le_refl _)) _) (by exact S1.out.kept (((Kept.refl (fun _ => False) W).alloc _).alloc _).plain0) (by have := HLN.out; omega) (by simp <;> omega) ?_
      intro v3 w3 o3 g3
      have K3 := hid ((((Kept.refl (fun _ => False) W).alloc _).alloc _).grown g3 (fun k hk => Or.inr (by cases hk; simp <;> omega)))
      have XX := hid ((Sz.oneN (W.alloc (.cells #[] 36)) (W.heap.size + 1) (by simp) (i, key, nx)).grown g3 (by simp) (by intro hk; have := Option.some.inj hk; simp at this))
      have O3 := hid o3
      clear o3 g3
      go_wp2_with fail
      refine hK.out _ _ (fun _ => ⟨(K3.out.cell (p := ⟨pw, 3, none⟩) hlW (fun e => e)).trans HH.out.1, (K3.out.cell (p := ⟨pw, 5, none⟩) hlW (fun e => e)).trans HH.out.2⟩) ?_
      clear hK K
      refine tl_ready (rs := [19]) (by kernel_rfl) (by simp) ?_
      refine AllT.cons rfl (fun K hK => ?_) AllT.nil
      refine step_append_sz rfl (.tmp 130) (.tmp 139) rfl W.heap.size _ v3 _ (0 + L0.length) ([] ++ row h3 L0) [(i, key, nx)] rfl rfl (by exact O3.out) (by exact XX.out) (by have := HLN.out; show 0 + L0.length + 1 ≤ 1000000; omega) (by exact K3.out.size) ?_
      intro v4 w4 o4 g4
      have K4 := hid (K3.out.grown g4 (fun k hk => Or.inr (O3.out.lt k hk).1))
      have O4 := hid o4
      obtain ⟨va4, vc4, rfl⟩ := own_form o4
      clear o4 g4
      generalize hn4 : 0 + L0.length + [(i, key, nx)].length = n4 at *
      have HN4 := hid hn4
      clear hn4
      go_wp2_with fail
      refine hK.out _ _ (fun _ => ⟨(K4.out.cell (p := ⟨pw, 3, none⟩) hlW (fun e => e)).trans HH.out.1, (K4.out.cell (p := ⟨pw, 5, none⟩) hlW (fun e => e)).trans HH.out.2⟩) ?_
      clear hK K
      have hHeld : w4.cell? ⟨pw, 3, none⟩ = some (.slice va len vc) ∧ w4.cell? ⟨pw, 5, none⟩ = some (.int .i64 nx) := ⟨(K4.out.cell (p := ⟨pw, 3, none⟩) hlW (fun e => e)).trans HH.out.1, (K4.out.cell (p := ⟨pw, 5, none⟩) hlW (fun e => e)).trans HH.out.2⟩
      refine tl_take 22 143 (.pointer (some ⟨pw, 3, none⟩)) rfl rfl (by kernel_rfl) (by kernel_rfl) (by kernel_rfl) (fun _ _ _ h => h) (by decide) (by kernel_rfl) (by kernel_rfl) (by rfl) (fun wS hS => by (try dsimp only at hS); go_split_ands; go_simp) (by assumption) ?_
      simp only [Act.put, List.setIfInBounds_toArray]
      clear hHeld
      have fV4 : w4.frozen? ⟨pw, 3, none⟩ = false := (World.frozen?_of_block (K4.out.block pw hlW (fun e => e))).trans fV
      have cV4 := (K4.out.cell (p := ⟨pw, 3, none⟩) hlW (fun e => e)).trans HH.out.1
      have hl4 := Nat.lt_of_lt_of_le hlW K4.out.size
      have c54 := (K4.out.cell (p := ⟨pw, 5, none⟩) hlW (fun e => e)).trans HH.out.2
      have f54 : w4.frozen? ⟨pw, 5, none⟩ = false := blk_free (WD.out.plain K4.out).blk
      refine tl_ready (rs := [23]) (by kernel_rfl) (by simp) ?_
      refine AllT.cons rfl (fun K hK => ?_) AllT.nil
      go_simp
      refine hK.out _ _ (fun h => Bool.noConfusion (show true = false from h)) ?_
      clear hK K
      refine tl_done (by kernel_rfl) ?_ _
      refine NoPanic.normal ?_
      go_wp2
      go_ret
      have er : row h3 (L0 ++ [(i, key, nx)]) = [] ++ row h3 L0 ++ row h3 [(i, key, nx)] := by rw [row_append]; simp
      have el : (L0 ++ [(i, key, nx)]).length = n4 := by rw [← HN4.out]; simp
      have W4 := WD.out.plain K4.out
      have LZ : Lz (fun b => ¬ G b ∧ b ≠ pw) w4 (.slice va4 n4 vc4) (L0 ++ [(i, key, nx)]) := Lz.of_own (base := W.heap.size) (by rw [er, el]; exact O4.out) (fun b hb _ => ⟨fun z => by have := WD.out.is.lt b z; omega, by omega⟩)
      have kk1 := kept_pw w4 pw 3 (.slice va4 n4 vc4)
      have W5 := W4.wrote (v0' := .slice va4 n4 vc4) kk1 (by have b1 := blk_set (j := 3) (u := .slice va4 n4 vc4) W4.blk; simp at b1; exact b1) (LZ.kept kk1 fun _ q => q.2) (W4.l1.kept kk1 fun _ q => q.2)
      have kk2 := kept_pw (w4.setCell ⟨pw, 3, none⟩ (.slice va4 n4 vc4)) pw 5 (.int .i64 (nx + 1))
      have W6 := W5.wrote (nx' := nx + 1) kk2 (by have b1 := blk_set (j := 5) (u := .int .i64 (nx + 1)) W5.blk; simp at b1; exact b1) (W5.l0.kept kk2 fun _ q => q.2) (W5.l1.kept kk2 fun _ q => q.2)
      rw [HRT.out] at W6
      exact ⟨rfl, i, G, pa, pm, _, _, _, _, _, sp2, mo2, W6, HIN.out, by have := ST.out; have := PN.out; have := HKK.out; have := ST1.out; have := HQ.out; have := ST2.out; have := HS2.out; have := HM2.out; have := HB11.out; have := BMM.out; have := BM1.out; omega, MO.out⟩
  · go_simp
    go_wp2_with fail
    refine hK.out _ _ (fun _ => ⟨(((Kept.refl (fun _ => False) W).alloc _).cell (p := ⟨pw, 3, none⟩) hlW (fun e => e)).trans HH.out.1, (((Kept.refl (fun _ => False) W).alloc _).cell (p := ⟨pw, 5, none⟩) hlW (fun e => e)).trans HH.out.2⟩) ?_
    clear hK K
    refine tl_ready (rs := [2]) (by kernel_rfl) (by simp) ?_
    refine AllT.cons rfl (fun K hK => ?_) AllT.nil
    go_simp
    go_wp2_with fail
    refine hK.out _ _ (fun _ => ⟨((((Kept.refl (fun _ => False) W).alloc _).alloc _).cell (p := ⟨pw, 3, none⟩) hlW (fun e => e)).trans HH.out.1, ((((Kept.refl (fun _ => False) W).alloc _).alloc _).cell (p := ⟨pw, 5, none⟩) hlW (fun e => e)).trans HH.out.2⟩) ?_
    clear hK K
    refine tl_ready (rs := [9]) (by kernel_rfl) (by simp) ?_
    refine AllT.cons rfl (fun K hK => ?_) AllT.nil
    refine step_append_sz rfl (.tmp 123) (.tmp 129) rfl W.heap.size W.heap.size _ _ 0 [] L0 rfl rfl (by exact lit3N (W.alloc _) (W.heap.size + 1) (by simp) (by omega)) (by exact S1.out.kept (((Kept.refl (fun _ => False) W).alloc _).alloc _).plain0) (by have := HLN.out; omega) (by simp <;> omega) ?_
    intro v3 w3 o3 g3
    have K3 := hid ((((Kept.refl (fun _ => False) W).alloc _).alloc _).grown g3 (fun k hk => Or.inr (by cases hk; simp <;> omega)))
    have XX := hid (((Sz.one W (i, key, nx)).kept (((Kept.refl (fun _ => False) (W.alloc _)).alloc _).below (by simp) (fun _ e => e.elim))).grown g3 (by simp <;> omega) (by intro hk; have := Option.some.inj hk; simp at this))
    have O3 := hid o3
    clear o3 g3
    go_wp2_with fail
    refine hK.out _ _ (fun _ => ⟨(K3.out.cell (p := ⟨pw, 3, none⟩) hlW (fun e => e)).trans HH.out.1, (K3.out.cell (p := ⟨pw, 5, none⟩) hlW (fun e => e)).trans HH.out.2⟩) ?_
    clear hK K
    refine tl_ready (rs := [19]) (by kernel_rfl) (by simp) ?_
    refine AllT.cons rfl (fun K hK => ?_) AllT.nil
    refine step_append_sz rfl (.tmp 130) (.tmp 139) rfl W.heap.size _ v3 _ (0 + L0.length) ([] ++ row h3 L0) [(i, key, nx)] rfl rfl (by exact O3.out) (by exact XX.out) (by have := HLN.out; show 0 + L0.length + 1 ≤ 1000000; omega) (by exact K3.out.size) ?_
    intro v4 w4 o4 g4
    have K4 := hid (K3.out.grown g4 (fun k hk => Or.inr (O3.out.lt k hk).1))
    have O4 := hid o4
    obtain ⟨va4, vc4, rfl⟩ := own_form o4
    clear o4 g4
    generalize hn4 : 0 + L0.length + [(i, key, nx)].length = n4 at *
    have HN4 := hid hn4
    clear hn4
    go_wp2_with fail
    refine hK.out _ _ (fun _ => ⟨(K4.out.cell (p := ⟨pw, 3, none⟩) hlW (fun e => e)).trans HH.out.1, (K4.out.cell (p := ⟨pw, 5, none⟩) hlW (fun e => e)).trans HH.out.2⟩) ?_
    clear hK K
    have hHeld : w4.cell? ⟨pw, 3, none⟩ = some (.slice va len vc) ∧ w4.cell? ⟨pw, 5, none⟩ = some (.int .i64 nx) := ⟨(K4.out.cell (p := ⟨pw, 3, none⟩) hlW (fun e => e)).trans HH.out.1, (K4.out.cell (p := ⟨pw, 5, none⟩) hlW (fun e => e)).trans HH.out.2⟩
    refine tl_take 22 143 (.pointer (some ⟨pw, 3, none⟩)) rfl rfl (by kernel_rfl) (by kernel_rfl) (by kernel_rfl) (fun _ _ _ h => h) (by decide) (by kernel_rfl) (by kernel_rfl) (by rfl) (fun wS hS => by (try dsimp only at hS); go_split_ands; go_simp) (by assumption) ?_
    simp only [Act.put, List.setIfInBounds_toArray]
    clear hHeld
    have fV4 : w4.frozen? ⟨pw, 3, none⟩ = false := (World.frozen?_of_block (K4.out.block pw hlW (fun e => e))).trans fV
    have cV4 := (K4.out.cell (p := ⟨pw, 3, none⟩) hlW (fun e => e)).trans HH.out.1
    have hl4 := Nat.lt_of_lt_of_le hlW K4.out.size
    have c54 := (K4.out.cell (p := ⟨pw, 5, none⟩) hlW (fun e => e)).trans HH.out.2
    have f54 : w4.frozen? ⟨pw, 5, none⟩ = false := blk_free (WD.out.plain K4.out).blk
    refine tl_ready (rs := [23]) (by kernel_rfl) (by simp) ?_
    refine AllT.cons rfl (fun K hK => ?_) AllT.nil
    go_simp
    refine hK.out _ _ (fun h => Bool.noConfusion (show true = false from h)) ?_
    clear hK K
    refine tl_done (by kernel_rfl) ?_ _
    refine NoPanic.normal ?_
    go_wp2
    go_ret
    have er : row h3 (L0 ++ [(i, key, nx)]) = [] ++ row h3 L0 ++ row h3 [(i, key, nx)] := by rw [row_append]; simp
    have el : (L0 ++ [(i, key, nx)]).length = n4 := by rw [← HN4.out]; simp
    have W4 := WD.out.plain K4.out
    have LZ : Lz (fun b => ¬ G b ∧ b ≠ pw) w4 (.slice va4 n4 vc4) (L0 ++ [(i, key, nx)]) := Lz.of_own (base := W.heap.size) (by rw [er, el]; exact O4.out) (fun b hb _ => ⟨fun z => by have := WD.out.is.lt b z; omega, by omega⟩)
    have kk1 := kept_pw w4 pw 3 (.slice va4 n4 vc4)
    have W5 := W4.wrote (v0' := .slice va4 n4 vc4) kk1 (by have b1 := blk_set (j := 3) (u := .slice va4 n4 vc4) W4.blk; simp at b1; exact b1) (LZ.kept kk1 fun _ q => q.2) (W4.l1.kept kk1 fun _ q => q.2)
    have kk2 := kept_pw (w4.setCell ⟨pw, 3, none⟩ (.slice va4 n4 vc4)) pw 5 (.int .i64 (nx + 1))
    have W6 := W5.wrote (nx' := nx + 1) kk2 (by have b1 := blk_set (j := 5) (u := .int .i64 (nx + 1)) W5.blk; simp at b1; exact b1) (W5.l0.kept kk2 fun _ q => q.2) (W5.l1.kept kk2 fun _ q => q.2)
    rw [HRT.out] at W6
    exact ⟨rfl, i, G, pa, pm, _, _, _, _, _, sp2, mo2, W6, HIN.out, by have := ST.out; have := PN.out; have := HKK.out; have := ST1.out; have := HQ.out; have := ST2.out; have := HS2.out; have := HM2.out; have := HB11.out; have := BMM.out; have := BM1.out; omega, MO.out⟩
end Go.Proofs.Ythfdooigljkfiab
