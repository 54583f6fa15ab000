/- Several texts in one. -/
import Derived.Test.YthfdooigljkfiabGh
/- The laws' pop. -/
namespace Go.Proofs.Ythfdooigljkfiab
open Go.ChangeShapes Go.WideShapes Go.ChangeAt Go.RowKit
open Tr

set_option maxHeartbeats 2000000 in
theorem pop0_none {w0 : Fm} {w : World} {pw N K : Nat} {L0 L1 : List (Nat × Int × Int)} {nx : Int} (h : Sit w0 w pw N K L0 L1 nx) (h0 : L0 = []) (hK : K ≤ 90000000) :
    Calls Try.prog 12 #[.pointer (some ⟨pw, 0, none⟩), .int .i64 0] w fun e w' => e = .returned (.bool true) ∧ Sit w0 w' pw N (K + 1000) L0 L1 nx := by
  obtain ⟨F, pa, pm, v0, v1, s, t, u, sp, mo, hw, hi, hk, hm⟩ := h
  have hi0 : Inv s t u [] L1 := by rw [← h0]; exact hi
  have ht : t = nilQ := hi0.a.none.2 rfl
  have hr : headr t = -1 := by rw [ht]; rfl
  have HW := hid hw
  have HI := hid hi
  have HR := hid hr
  have HK := hid hk
  have HM := hid hm
  have M := hid (meterA pa pm s F w hw.is)
  have T := hid (stepsA pa pm s F w hw.is)
  have P := hid (fun w1 (k1 : Kept (fun _ => False) w w1) => popC_none hi0 (by omega) ((Ex.start hw.is).plain k1))
  obtain ⟨c0, c1, c2, c3, c4, c5, c6, c7, cf⟩ := hw.cells
  have hlt := hw.lt
  have hout := hid hw.out
  obtain ⟨va, vc, hv⟩ := hw.l0.form
  rw [h0] at hv
  subst hv
  obtain ⟨vb, vd, hvb⟩ := hw.l1.form
  subst hvb
  have hrm := room_two hi
  have htop := hi.ok.top
  obtain ⟨ln2, hln2⟩ : ∃ z, z = L1.length := ⟨_, rfl⟩
  have HLN2 := hid hln2
  have hl2' : ln2 ≤ 40000 := by omega
  have BM1 := hid (bts_le 16 ln2 (by omega))
  have hw2 : IntKind.i64.wrap (ln2 : Int) = (ln2 : Int) := IntWalk.i64_in _ (by omega)
  clear hrm htop hln2
  clear hw hi hi0 hr hk hm h0 ht
  rw [HR.out] at P c1
  generalize hq : s.steps = q at *
  have HQ := hid hq
  have hq1 : q ≤ 90000000 := by have := HK.out; omega
  clear hq
  go_enter Try.func12, Try.ntmps12
  go_wp2_with fail
  refine M.out.mono ?_
  rintro e w1 ⟨rfl, rfl⟩
  go_wp2_with fail
  refine T.out.mono ?_
  rintro e w2 ⟨rfl, rfl⟩
  clear M T
  go_wp2_with fail
  go_region_held3 (fun w' => w'.cell? ⟨pw, 0, none⟩ = some (.pointer (some ⟨pa, 0, none⟩)) ∧ w'.cell? ⟨pw, 1, none⟩ = some (.int .i64 (-1))) (first | exact ⟨c0, c1⟩ | (simp [go_sem]; exact ⟨c0, c1⟩))
    (first
      | (go_at_call 19; refine (P.out _ (by first | exact Kept.refl _ _ | exact (Kept.refl _ _).drew | exact (Kept.refl _ _).drewN _)).mono ?_; rintro e w3 ⟨j, rfl, hj, e3⟩; replace c0 := (e3.kept.cell (p := ⟨pw, 0, none⟩) hlt hout.out).trans c0; replace c1 := (e3.kept.cell (p := ⟨pw, 1, none⟩) hlt hout.out).trans c1; have E3 := hid e3; clear e3))
  have W3 := hid (HW.out.ex E3.out)
  obtain ⟨d0, d1, d2, d3, d4, d5, d6, d7, df⟩ := W3.out.cells
  have C := hid (costW ln2 q sp mo (by omega) W3.out (by show q ≤ s.steps + j; rw [HQ.out]; omega) (by show s.steps + j ≤ _; rw [HQ.out]; omega) (by have := HK.out; omega) (by show sp + (s.steps + j) ≤ _; have := HK.out; rw [HQ.out]; omega))
  rw [← HLN2.out] at d4
  clear c0 c1 c2 c3 c4 c5 c6 c7 cf
  clear d0 d1 d2 d5 d6 d7 df
  have hlt3 := W3.out.lt
  go_wp2_with fail
  refine C.out.mono ?_
  rintro e w4 ⟨rfl, sp', mo', hsp, hmo, h4⟩
  have HSP := hid (show sp' + q = sp + (s.steps + j) from hsp)
  have HMO := hid hmo
  clear hsp hmo
  have H4 := hid h4
  clear h4 C
  go_wp2
  go_ret
  exact ⟨rfl, F, pa, pm, _, _, tk s j, t, u, sp', mo', H4.out, HI.out.tk j, by show s.steps + j + pot s t u ≤ _ ∧ sp' + pot s t u ≤ _ ∧ _; have := HK.out; have := HQ.out; have := HSP.out; have := HMO.out; have := BM1.out; omega, HM.out⟩

set_option maxHeartbeats 2000000 in
theorem pop1_none {w0 : Fm} {w : World} {pw N K : Nat} {L0 L1 : List (Nat × Int × Int)} {nx : Int} (h : Sit w0 w pw N K L0 L1 nx) (h0 : L1 = []) (hK : K ≤ 90000000) :
    Calls Try.prog 12 #[.pointer (some ⟨pw, 0, none⟩), .int .i64 1] w fun e w' => e = .returned (.bool true) ∧ Sit w0 w' pw N (K + 1000) L0 L1 nx := by
  obtain ⟨F, pa, pm, v0, v1, s, t, u, sp, mo, hw, hi, hk, hm⟩ := h
  have hi0 : Inv s t u L0 [] := by rw [← h0]; exact hi
  have ht : u = nilQ := hi0.b.none.2 rfl
  have hr : headr u = -1 := by rw [ht]; rfl
  have HW := hid hw
  have HI := hid hi
  have HR := hid hr
  have HK := hid hk
  have HM := hid hm
  have M := hid (meterA pa pm s F w hw.is)
  have T := hid (stepsA pa pm s F w hw.is)
  have P := hid (fun w1 (k1 : Kept (fun _ => False) w w1) => popC_none hi0.swap (by omega) ((Ex.start hw.is).plain k1))
  obtain ⟨c0, c1, c2, c3, c4, c5, c6, c7, cf⟩ := hw.cells
  have hlt := hw.lt
  have hout := hid hw.out
  obtain ⟨va, vc, hv⟩ := hw.l1.form
  rw [h0] at hv
  subst hv
  obtain ⟨vb, vd, hvb⟩ := hw.l0.form
  subst hvb
  have hrm := room_two hi
  have htop := hi.ok.top
  obtain ⟨ln2, hln2⟩ : ∃ z, z = L0.length := ⟨_, rfl⟩
  have HLN2 := hid hln2
  have hl2' : ln2 ≤ 40000 := by omega
  have BM1 := hid (bts_le 16 ln2 (by omega))
  have hw2 : IntKind.i64.wrap (ln2 : Int) = (ln2 : Int) := IntWalk.i64_in _ (by omega)
  clear hrm htop hln2
  clear hw hi hi0 hr hk hm h0 ht
  rw [HR.out] at P c2
  generalize hq : s.steps = q at *
  have HQ := hid hq
  have hq1 : q ≤ 90000000 := by have := HK.out; omega
  clear hq
  go_enter Try.func12, Try.ntmps12
  go_wp2_with fail
  refine M.out.mono ?_
  rintro e w1 ⟨rfl, rfl⟩
  go_wp2_with fail
  refine T.out.mono ?_
  rintro e w2 ⟨rfl, rfl⟩
  clear M T
  go_wp2_with fail
  go_region_held3 (fun w' => w'.cell? ⟨pw, 0, none⟩ = some (.pointer (some ⟨pa, 0, none⟩)) ∧ w'.cell? ⟨pw, 2, none⟩ = some (.int .i64 (-1))) (first | exact ⟨c0, c2⟩ | (simp [go_sem]; exact ⟨c0, c2⟩))
    (first
      | (go_at_call 19; refine (P.out _ (by first | exact Kept.refl _ _ | exact (Kept.refl _ _).drew | exact (Kept.refl _ _).drewN _)).mono ?_; rintro e w3 ⟨j, rfl, hj, e3⟩; replace c0 := (e3.kept.cell (p := ⟨pw, 0, none⟩) hlt hout.out).trans c0; replace c2 := (e3.kept.cell (p := ⟨pw, 2, none⟩) hlt hout.out).trans c2; have E3 := hid e3; clear e3))
  have W3 := hid (HW.out.ex E3.out)
  obtain ⟨d0, d1, d2, d3, d4, d5, d6, d7, df⟩ := W3.out.cells
  have C := hid (costW ln2 q sp mo (by omega) W3.out (by show q ≤ s.steps + j; rw [HQ.out]; omega) (by show s.steps + j ≤ _; rw [HQ.out]; omega) (by have := HK.out; omega) (by show sp + (s.steps + j) ≤ _; have := HK.out; rw [HQ.out]; omega))
  rw [← HLN2.out] at d3
  clear c0 c1 c2 c3 c4 c5 c6 c7 cf
  clear d0 d1 d2 d5 d6 d7 df
  have hlt3 := W3.out.lt
  go_wp2_with fail
  refine C.out.mono ?_
  rintro e w4 ⟨rfl, sp', mo', hsp, hmo, h4⟩
  have HSP := hid (show sp' + q = sp + (s.steps + j) from hsp)
  have HMO := hid hmo
  clear hsp hmo
  have H4 := hid h4
  clear h4 C
  go_wp2
  go_ret
  exact ⟨rfl, F, pa, pm, _, _, tk s j, t, u, sp', mo', H4.out, HI.out.tk j, by show s.steps + j + pot s t u ≤ _ ∧ sp' + pot s t u ≤ _ ∧ _; have := HK.out; have := HQ.out; have := HSP.out; have := HMO.out; have := BM1.out; omega, HM.out⟩

set_option maxHeartbeats 4000000 in
set_option maxRecDepth 100000 in
theorem pop0_some {w0 : Fm} {w : World} {pw N K : Nat} {L0 L1 : List (Nat × Int × Int)} {nx : Int} (h : Sit w0 w pw N K L0 L1 nx) (h0 : L0 ≠ []) (hl : L0.length ≤ 700) (hK : K ≤ 90000000) :
    Calls Try.prog 12 #[.pointer (some ⟨pw, 0, none⟩), .int .i64 0] w fun e w' => e = .returned (.bool true) ∧ Sit w0 w' pw N (K + 1000) (popL L0) L1 nx := by
  obtain ⟨F, pa, pm, v0, v1, s, t, u, sp, mo, hw, hi, hk, hm⟩ := h
  obtain ⟨x, hx⟩ := lst_some h0
  obtain ⟨hL, hk1⟩ := split_at hx
  obtain ⟨i, hxi⟩ : ∃ i, x.1 = i := ⟨_, rfl⟩
  have HW := hid hw
  have HK := hid hk
  have HM := hid hm
  have M := hid (meterA pa pm s F w hw.is)
  have T := hid (stepsA pa pm s F w hw.is)
  have b20 := bts_le 10 L0.length (by omega)
  have B1 := hid (show 1 ≤ bts L0.length from bts_pos (List.length_pos_iff.2 h0))
  have B20 := hid b20
  have P := hid (fun w1 (k1 : Kept (fun _ => False) w w1) => popC hi (by omega) hx (by omega) ((Aft.start hw.is).plain k1))
  rw [hxi] at P
  obtain ⟨c0, c1, c2, c3, c4, c5, c6, c7, cf⟩ := hw.cells
  have hlt := hw.lt
  have hout := hid hw.out
  obtain ⟨va, vc, hv⟩ := hw.l0.form
  subst hv
  obtain ⟨vb, vd, hvb⟩ := hw.l1.form
  subst hvb
  have hrm := room_two hi
  have htop := hi.ok.top
  obtain ⟨ln2, hln2⟩ : ∃ z, z = L1.length := ⟨_, rfl⟩
  have HLN2 := hid hln2
  obtain ⟨mm, hmm⟩ : ∃ z, z = L0.length + ln2 := ⟨_, rfl⟩
  have HMM := hid hmm
  have hmm4 : mm ≤ 40000 := by omega
  have HM4 := hid hmm4
  have BM1 := hid (bts_le 16 mm (by omega))
  have BMM := hid (bts_mono (show L0.length ≤ mm by omega))
  have hwm : IntKind.i64.wrap (mm : Int) = (mm : Int) := IntWalk.i64_in _ (by omega)
  clear hrm htop hln2 hmm
  obtain ⟨k, hkk⟩ : ∃ k, k = lstS L0 (L0.length - 1) := ⟨_, rfl⟩
  rw [← hkk] at hL hk1 hx
  have HKK := hid hkk
  have hkl : k < L0.length := (List.getElem?_eq_some_iff.1 hx).1
  have HX := hid hx
  have HXI := hid hxi
  have HL := hid hL
  have HK1 := hid hk1
  obtain ⟨len, hlen⟩ : ∃ len, len = L0.length := ⟨_, rfl⟩
  have HLEN := hid hlen
  have hsum : (len : Int) + (ln2 : Int) = (mm : Int) := by have := HMM.out; omega
  have hlen0 : ¬ len = 0 := by omega
  have hlen1 : ((len : Int) == 0) = false := by simp; omega
  rw [← hlen] at hkl c3 hl
  clear hw hi hk hm h0 hx hxi hL hk1 hkk hlen
  generalize hq : s.steps = q at *
  have HQ := hid hq
  have hq1 : q ≤ 90000000 := by have := HK.out; omega
  clear hq
  go_enter Try.func12, Try.ntmps12
  go_wp2_with fail
  refine M.out.mono ?_
  rintro e w1 ⟨rfl, rfl⟩
  go_wp2_with fail
  refine T.out.mono ?_
  rintro e w2 ⟨rfl, rfl⟩
  clear M T
  go_wp2_with fail
  go_region_held3 (fun w' => w'.cell? ⟨pw, 0, none⟩ = some (.pointer (some ⟨pa, 0, none⟩)) ∧ w'.cell? ⟨pw, 1, none⟩ = some (.int .i64 (headr t))) (first | exact ⟨c0, c1⟩ | (simp [go_sem]; exact ⟨c0, c1⟩))
    (first
      | (go_at_call 19; refine (P.out _ (by first | exact Kept.refl _ _ | exact (Kept.refl _ _).drew | exact (Kept.refl _ _).drewN _)).mono ?_; rintro e w3 ⟨t', s3, rfl, e3, i3, m3, st1, st2, _⟩; have HIN := hid i3; have MO := hid (m3.trans HM.out); have ST2 := hid st1; have ST := hid st2; clear i3 m3 st1 st2; replace c0 := (e3.kept.cell (p := ⟨pw, 0, none⟩) hlt hout.out).trans c0; replace c1 := (e3.kept.cell (p := ⟨pw, 1, none⟩) hlt hout.out).trans c1; have E3 := hid e3; clear e3))
  clear P
  have W3 := hid (HW.out.aft E3.out)
  clear c0 c1 c2 c3 c4 c5 c6 c7 cf hout HW
  generalize Grow F w2 w3 = G at W3
  obtain ⟨c0, c1, c2, c3, c4, c5, c6, c7, cf⟩ := W3.out.cells
  have hlt3 := W3.out.lt
  have C := hid (costW mm q sp mo (by have := HM4.out; omega) W3.out ST2.out (by have := ST.out; have := HK.out; have := HQ.out; omega) (by have := HK.out; omega) (by have := ST.out; have := HK.out; have := B1.out; have := BMM.out; have := BM1.out; have := HQ.out; have := HLEN.out; omega))
  rw [← HLEN.out] at C
  rw [← HLN2.out] at C
  rw [← HLEN.out] at c3
  rw [← HLN2.out] at c4
  clear c0 c1 c2 c5 c6 c7 cf
  go_wp2_with fail
  refine C.out.mono ?_
  rintro e w4 ⟨rfl, sp', mo', hsp, hmo, h4⟩
  have HSP := hid hsp
  have HMO := hid hmo
  clear hsp hmo
  have H4 := hid h4
  clear h4 C c3 c4 W3
  have LE := hid (leastH _ L0 w4 H4.out.l0 (by have := HLEN.out; omega))
  rw [← HKK.out] at LE
  obtain ⟨c0, c1, c2, c3, c4, c5, c6, c7, cf⟩ := H4.out.cells
  have hlt4 := H4.out.lt
  clear c0 c1 c2 c5 c6 c7 cf
  go_wp2_with fail
  refine LE.out.mono ?_
  rintro e w5 ⟨rfl, k5⟩
  have W5 := hid (H4.out.plain k5)
  clear k5 LE H4 c3 c4 hlt4
  obtain ⟨c0, c1, c2, c3, c4, c5, c6, c7, cf⟩ := W5.out.cells
  have hlt5 := W5.out.lt
  obtain ⟨b, cap, e, _, hb, hP, x1, _, _⟩ := W5.out.l0.at HX.out
  rw [HXI.out] at x1
  obtain rfl : va = some ⟨b, 0, none⟩ := by injection e
  clear e
  have hbp : b ≠ pw := hP.2
  have hpb : pw ≠ b := fun e => hbp e.symm
  have fR := cf 1
  have hkl' : (k : Int) < (len : Int) := by omega
  clear c5 c6 c7 cf hP
  have kk := kept_pw w5 pw 1 (.int .i64 (headr t'))
  have W6 := hid (W5.out.wrote (r0' := headr t') kk (by have b1 := blk_set (j := 1) (u := .int .i64 (headr t')) W5.out.blk; simp at b1; exact b1) (W5.out.l0.kept kk fun _ q => q.2) (W5.out.l1.kept kk fun _ q => q.2))
  have ND := hid (nodeT (i : Int) (Ex.start W6.out.is) (by have := ST.out; have := HK.out; have := HQ.out; omega))
  rw [show cellS s3 (i : Int) 9 = -1 from cell_neg (j := 9) HIN.out.live (by decide) HIN.out.free] at ND
  clear kk
  go_wp2_with fail
  refine ND.out.mono ?_
  rintro e w7 ⟨rfl, e7⟩
  have W7 := hid (W6.out.ex e7)
  clear e7 ND W6 W5 c0 c1 c2 c3 c4 fR x1 hb hlt5
  obtain ⟨c0, c1, c2, c3, c4, c5, c6, c7, cf⟩ := W7.out.cells
  have hlt7 := W7.out.lt
  have fV := cf 3
  have L7 : Lz (fun b => ¬ G b ∧ b ≠ pw) w7 (.slice (some ⟨b, 0, none⟩) len vc) (L0.take k ++ x :: L0.drop (k + 1)) := by
    have := W7.out.l0
    have e : L0.take k ++ x :: L0.drop (k + 1) = L0 := HL.out.symm
    rw [e]; exact this
  have WO := hid (fun w1 (k1 : Kept (fun _ => False) w7 w1) => withoutN _ (L0.take k) (L0.drop (k + 1)) x w1 (L7.kept k1 fun _ _ e => e) (by have e : L0.take k ++ x :: L0.drop (k + 1) = L0 := HL.out.symm; rw [e]; have := HLEN.out; omega))
  obtain ⟨len2, hl2⟩ : ∃ len2, len2 = k + (L0.drop (k + 1)).length := ⟨_, rfl⟩
  rw [HK1.out, ← hl2] at WO
  have HL2 := hid hl2
  clear hl2
  clear c1 c2 c5 c6 c7 cf L7
  go_wp2_with fail
  go_region_with (go_at_call 28; refine (WO.out _ (by first | exact Kept.refl _ _ | exact (Kept.refl _ _).drew | exact (Kept.refl _ _).drewN _)).mono ?_; rintro e w8 ⟨v', rfl, o8, k8⟩; obtain ⟨va8, vc8, rfl⟩ := own_form o8; have fV8 := (World.frozen?_of_block (k8.block pw hlt7 (fun e => e))).trans fV; have hlt8 := Nat.lt_of_lt_of_le hlt7 k8.size; replace c3 := (k8.cell (p := ⟨pw, 3, none⟩) hlt7 (fun e => e)).trans c3; replace c0 := (k8.cell (p := ⟨pw, 0, none⟩) hlt7 (fun e => e)).trans c0; have O8 := hid o8; have K8 := hid k8; clear o8 k8)
  all_goals
    have ep : popL L0 = L0.take k ++ L0.drop (k + 1) := by unfold popL; rw [← HKK.out]
    have el : (L0.take k ++ L0.drop (k + 1)).length = len2 := by rw [List.length_append, HK1.out, HL2.out]
    have W8 := hid (W7.out.plain (((Kept.refl _ _).drewN 1).trans' K8.out))
    have kk := kept_pw w8 pw 3 (.slice va8 len2 vc8)
    have LZ : Lz (fun b => ¬ G b ∧ b ≠ pw) w8 (.slice va8 len2 vc8) (L0.take k ++ L0.drop (k + 1)) := Lz.of_own (base := w7.heap.size) (by rw [el]; exact O8.out) (fun b hb _ => ⟨fun z => by have := W7.out.is.lt b z; omega, by omega⟩)
    have W9 := hid (W8.out.wrote (v0' := .slice va8 len2 vc8) kk (by have b1 := blk_set (j := 3) (u := .slice va8 len2 vc8) W8.out.blk; simp at b1; exact b1) (LZ.kept kk fun _ q => q.2) (W8.out.l1.kept kk fun _ q => q.2))
    have GV := hid (giveT (i : Int) (Aft.start W9.out.is) (by show s3.steps + 1 ≤ _; have := ST.out; have := HK.out; have := HQ.out; omega))
    rw [show liveS (tk s3 1) (i : Int) = true from HIN.out.live] at GV
    have EP := hid ep
    clear ep el kk LZ
    go_wp2_with fail
    refine GV.out.mono ?_
    rintro e w10 ⟨rfl, e10⟩
    have W10 := hid (W9.out.aft e10)
    clear GV e10
    go_wp2
    go_ret
    have Z1 := W10.out
    rw [← EP.out] at Z1
    have Z2 := (give_inv (HIN.out.tk 1))
    exact ⟨rfl, _, pa, pm, _, _, _, _, _, sp', mo', Z1, Z2.1, by rw [give_steps, Z2.2]; show s3.steps + 1 + 1 + pot s3 t' u ≤ _ ∧ sp' + pot s3 t' u ≤ _ ∧ _; have := ST.out; have := ST2.out; have := HK.out; have := HQ.out; have := HSP.out; have := HMO.out; have := B1.out; have := BMM.out; have := BM1.out; have := B20.out; omega, by rw [give_most]; exact MO.out⟩

set_option maxHeartbeats 4000000 in
set_option maxRecDepth 100000 in
theorem pop1_some {w0 : Fm} {w : World} {pw N K : Nat} {L0 L1 : List (Nat × Int × Int)} {nx : Int} (h : Sit w0 w pw N K L0 L1 nx) (h0 : L1 ≠ []) (hl : L1.length ≤ 700) (hK : K ≤ 90000000) :
    Calls Try.prog 12 #[.pointer (some ⟨pw, 0, none⟩), .int .i64 1] w fun e w' => e = .returned (.bool true) ∧ Sit w0 w' pw N (K + 1000) L0 (popL L1) nx := by
  obtain ⟨F, pa, pm, v0, v1, s, t, u, sp, mo, hw, hi, hk, hm⟩ := h
  obtain ⟨x, hx⟩ := lst_some h0
  obtain ⟨hL, hk1⟩ := split_at hx
  obtain ⟨i, hxi⟩ : ∃ i, x.1 = i := ⟨_, rfl⟩
  have HW := hid hw
  have HK := hid hk
  have PS := hid (pot_swap s t u)
  have HM := hid hm
  have M := hid (meterA pa pm s F w hw.is)
  have T := hid (stepsA pa pm s F w hw.is)
  have b20 := bts_le 10 L1.length (by omega)
  have B1 := hid (show 1 ≤ bts L1.length from bts_pos (List.length_pos_iff.2 h0))
  have B20 := hid b20
  have P := hid (fun w1 (k1 : Kept (fun _ => False) w w1) => popC hi.swap (by omega) hx (by omega) ((Aft.start hw.is).plain k1))
  rw [hxi] at P
  obtain ⟨c0, c1, c2, c3, c4, c5, c6, c7, cf⟩ := hw.cells
  have hlt := hw.lt
  have hout := hid hw.out
  obtain ⟨va, vc, hv⟩ := hw.l1.form
  subst hv
  obtain ⟨vb, vd, hvb⟩ := hw.l0.form
  subst hvb
  have hrm := room_two hi
  have htop := hi.ok.top
  obtain ⟨ln2, hln2⟩ : ∃ z, z = L0.length := ⟨_, rfl⟩
  have HLN2 := hid hln2
  obtain ⟨mm, hmm⟩ : ∃ z, z = L1.length + ln2 := ⟨_, rfl⟩
  have HMM := hid hmm
  have hmm4 : mm ≤ 40000 := by omega
  have HM4 := hid hmm4
  have BM1 := hid (bts_le 16 mm (by omega))
  have BMM := hid (bts_mono (show L1.length ≤ mm by omega))
  have hwm : IntKind.i64.wrap (mm : Int) = (mm : Int) := IntWalk.i64_in _ (by omega)
  clear hrm htop hln2 hmm
  obtain ⟨k, hkk⟩ : ∃ k, k = lstS L1 (L1.length - 1) := ⟨_, rfl⟩
  rw [← hkk] at hL hk1 hx
  have HKK := hid hkk
  have hkl : k < L1.length := (List.getElem?_eq_some_iff.1 hx).1
  have HX := hid hx
  have HXI := hid hxi
  have HL := hid hL
  have HK1 := hid hk1
  obtain ⟨len, hlen⟩ : ∃ len, len = L1.length := ⟨_, rfl⟩
  have HLEN := hid hlen
  have hsum : (len : Int) + (ln2 : Int) = (mm : Int) := by have := HMM.out; omega
  have hlen0 : ¬ len = 0 := by omega
  have hlen1 : ((len : Int) == 0) = false := by simp; omega
  rw [← hlen] at hkl c4 hl
  clear hw hi hk hm h0 hx hxi hL hk1 hkk hlen
  generalize hq : s.steps = q at *
  have HQ := hid hq
  have hq1 : q ≤ 90000000 := by have := HK.out; omega
  clear hq
  go_enter Try.func12, Try.ntmps12
  go_wp2_with fail
  refine M.out.mono ?_
  rintro e w1 ⟨rfl, rfl⟩
  go_wp2_with fail
  refine T.out.mono ?_
  rintro e w2 ⟨rfl, rfl⟩
  clear M T
  go_wp2_with fail
  go_region_held3 (fun w' => w'.cell? ⟨pw, 0, none⟩ = some (.pointer (some ⟨pa, 0, none⟩)) ∧ w'.cell? ⟨pw, 2, none⟩ = some (.int .i64 (headr u))) (first | exact ⟨c0, c2⟩ | (simp [go_sem]; exact ⟨c0, c2⟩))
    (first
      | (go_at_call 19; refine (P.out _ (by first | exact Kept.refl _ _ | exact (Kept.refl _ _).drew | exact (Kept.refl _ _).drewN _)).mono ?_; rintro e w3 ⟨t', s3, rfl, e3, i3, m3, st1, st2, _⟩; have HIN := hid i3; have MO := hid (m3.trans HM.out); have ST2 := hid st1; have ST := hid st2; clear i3 m3 st1 st2; replace c0 := (e3.kept.cell (p := ⟨pw, 0, none⟩) hlt hout.out).trans c0; replace c2 := (e3.kept.cell (p := ⟨pw, 2, none⟩) hlt hout.out).trans c2; have E3 := hid e3; clear e3))
  clear P
  have W3 := hid (HW.out.aft E3.out)
  clear c0 c1 c2 c3 c4 c5 c6 c7 cf hout HW
  generalize Grow F w2 w3 = G at W3
  obtain ⟨c0, c1, c2, c3, c4, c5, c6, c7, cf⟩ := W3.out.cells
  have hlt3 := W3.out.lt
  have C := hid (costW mm q sp mo (by have := HM4.out; omega) W3.out ST2.out (by have := ST.out; have := HK.out; have := PS.out; have := HQ.out; omega) (by have := HK.out; omega) (by have := ST.out; have := HK.out; have := B1.out; have := BMM.out; have := BM1.out; have := PS.out; have := HQ.out; have := HLEN.out; omega))
  rw [← HLEN.out] at C
  rw [← HLN2.out] at C
  rw [← HLEN.out] at c4
  rw [← HLN2.out] at c3
  clear c0 c1 c2 c5 c6 c7 cf
  go_wp2_with fail
  refine C.out.mono ?_
  rintro e w4 ⟨rfl, sp', mo', hsp, hmo, h4⟩
  have HSP := hid hsp
  have HMO := hid hmo
  clear hsp hmo
  have H4 := hid h4
  clear h4 C c3 c4 W3
  have LE := hid (leastH _ L1 w4 H4.out.l1 (by have := HLEN.out; omega))
  rw [← HKK.out] at LE
  obtain ⟨c0, c1, c2, c3, c4, c5, c6, c7, cf⟩ := H4.out.cells
  have hlt4 := H4.out.lt
  clear c0 c1 c2 c5 c6 c7 cf
  go_wp2_with fail
  refine LE.out.mono ?_
  rintro e w5 ⟨rfl, k5⟩
  have W5 := hid (H4.out.plain k5)
  clear k5 LE H4 c3 c4 hlt4
  obtain ⟨c0, c1, c2, c3, c4, c5, c6, c7, cf⟩ := W5.out.cells
  have hlt5 := W5.out.lt
  obtain ⟨b, cap, e, _, hb, hP, x1, _, _⟩ := W5.out.l1.at HX.out
  rw [HXI.out] at x1
  obtain rfl : va = some ⟨b, 0, none⟩ := by injection e
  clear e
  have hbp : b ≠ pw := hP.2
  have hpb : pw ≠ b := fun e => hbp e.symm
  have fR := cf 2
  have hkl' : (k : Int) < (len : Int) := by omega
  clear c5 c6 c7 cf hP
  have kk := kept_pw w5 pw 2 (.int .i64 (headr t'))
  have W6 := hid (W5.out.wrote (r1' := headr t') kk (by have b1 := blk_set (j := 2) (u := .int .i64 (headr t')) W5.out.blk; simp at b1; exact b1) (W5.out.l0.kept kk fun _ q => q.2) (W5.out.l1.kept kk fun _ q => q.2))
  have ND := hid (nodeT (i : Int) (Ex.start W6.out.is) (by have := ST.out; have := HK.out; have := PS.out; have := HQ.out; omega))
  rw [show cellS s3 (i : Int) 9 = -1 from cell_neg (j := 9) HIN.out.live (by decide) HIN.out.free] at ND
  clear kk
  go_wp2_with fail
  refine ND.out.mono ?_
  rintro e w7 ⟨rfl, e7⟩
  have W7 := hid (W6.out.ex e7)
  clear e7 ND W6 W5 c0 c1 c2 c3 c4 fR x1 hb hlt5
  obtain ⟨c0, c1, c2, c3, c4, c5, c6, c7, cf⟩ := W7.out.cells
  have hlt7 := W7.out.lt
  have fV := cf 4
  have L7 : Lz (fun b => ¬ G b ∧ b ≠ pw) w7 (.slice (some ⟨b, 0, none⟩) len vc) (L1.take k ++ x :: L1.drop (k + 1)) := by
    have := W7.out.l1
    have e : L1.take k ++ x :: L1.drop (k + 1) = L1 := HL.out.symm
    rw [e]; exact this
  have WO := hid (fun w1 (k1 : Kept (fun _ => False) w7 w1) => withoutN _ (L1.take k) (L1.drop (k + 1)) x w1 (L7.kept k1 fun _ _ e => e) (by have e : L1.take k ++ x :: L1.drop (k + 1) = L1 := HL.out.symm; rw [e]; have := HLEN.out; omega))
  obtain ⟨len2, hl2⟩ : ∃ len2, len2 = k + (L1.drop (k + 1)).length := ⟨_, rfl⟩
  rw [HK1.out, ← hl2] at WO
  have HL2 := hid hl2
  clear hl2
  clear c1 c2 c5 c6 c7 cf L7
  go_wp2_with fail
  go_region_with (go_at_call 28; refine (WO.out _ (by first | exact Kept.refl _ _ | exact (Kept.refl _ _).drew | exact (Kept.refl _ _).drewN _)).mono ?_; rintro e w8 ⟨v', rfl, o8, k8⟩; obtain ⟨va8, vc8, rfl⟩ := own_form o8; have fV8 := (World.frozen?_of_block (k8.block pw hlt7 (fun e => e))).trans fV; have hlt8 := Nat.lt_of_lt_of_le hlt7 k8.size; replace c4 := (k8.cell (p := ⟨pw, 4, none⟩) hlt7 (fun e => e)).trans c4; replace c0 := (k8.cell (p := ⟨pw, 0, none⟩) hlt7 (fun e => e)).trans c0; have O8 := hid o8; have K8 := hid k8; clear o8 k8)
  all_goals
    have ep : popL L1 = L1.take k ++ L1.drop (k + 1) := by unfold popL; rw [← HKK.out]
    have el : (L1.take k ++ L1.drop (k + 1)).length = len2 := by rw [List.length_append, HK1.out, HL2.out]
    have W8 := hid (W7.out.plain (((Kept.refl _ _).drewN 1).trans' K8.out))
    have kk := kept_pw w8 pw 4 (.slice va8 len2 vc8)
    have LZ : Lz (fun b => ¬ G b ∧ b ≠ pw) w8 (.slice va8 len2 vc8) (L1.take k ++ L1.drop (k + 1)) := Lz.of_own (base := w7.heap.size) (by rw [el]; exact O8.out) (fun b hb _ => ⟨fun z => by have := W7.out.is.lt b z; omega, by omega⟩)
    have W9 := hid (W8.out.wrote (v1' := .slice va8 len2 vc8) kk (by have b1 := blk_set (j := 4) (u := .slice va8 len2 vc8) W8.out.blk; simp at b1; exact b1) (W8.out.l0.kept kk fun _ q => q.2) (LZ.kept kk fun _ q => q.2))
    have GV := hid (giveT (i : Int) (Aft.start W9.out.is) (by show s3.steps + 1 ≤ _; have := ST.out; have := HK.out; have := PS.out; have := HQ.out; omega))
    rw [show liveS (tk s3 1) (i : Int) = true from HIN.out.live] at GV
    have EP := hid ep
    clear ep el kk LZ
    go_wp2_with fail
    refine GV.out.mono ?_
    rintro e w10 ⟨rfl, e10⟩
    have W10 := hid (W9.out.aft e10)
    clear GV e10
    go_wp2
    go_ret
    have Z1 := W10.out
    rw [← EP.out] at Z1
    have Z2 := give_inv (HIN.out.tk 1)
    exact ⟨rfl, _, pa, pm, _, _, _, _, _, sp', mo', Z1, Z2.1.swap, by rw [give_steps, pot_swap, Z2.2]; show s3.steps + 1 + 1 + pot s3 t' t ≤ _ ∧ sp' + pot s3 t' t ≤ _ ∧ _; have := ST.out; have := ST2.out; have := HK.out; have := PS.out; have := HQ.out; have := HSP.out; have := HMO.out; have := B1.out; have := BMM.out; have := BM1.out; have := B20.out; omega, by rw [give_most]; exact MO.out⟩

end Go.Proofs.Ythfdooigljkfiab

/- The laws' pop, of any heap; what the world's lists are in memory. -/
namespace Go.Proofs.Ythfdooigljkfiab
open Go.ChangeShapes Go.WideShapes Go.ChangeAt Go.RowKit
open Tr

theorem pop0S {w0 : Fm} {w : World} {pw N K : Nat} {L0 L1 : List (Nat × Int × Int)} {nx : Int} (h : Sit w0 w pw N K L0 L1 nx) (hl : L0.length ≤ 700) (hK : K ≤ 90000000) :
    Calls Try.prog 12 #[.pointer (some ⟨pw, 0, none⟩), .int .i64 0] w fun e w' => e = .returned (.bool true) ∧ Sit w0 w' pw N (K + 1000) (popL L0) L1 nx := by
  by_cases h0 : L0 = []
  · subst h0; exact pop0_none h rfl hK
  · exact pop0_some h h0 hl hK
theorem pop1S {w0 : Fm} {w : World} {pw N K : Nat} {L0 L1 : List (Nat × Int × Int)} {nx : Int} (h : Sit w0 w pw N K L0 L1 nx) (hl : L1.length ≤ 700) (hK : K ≤ 90000000) :
    Calls Try.prog 12 #[.pointer (some ⟨pw, 0, none⟩), .int .i64 1] w fun e w' => e = .returned (.bool true) ∧ Sit w0 w' pw N (K + 1000) L0 (popL L1) nx := by
  by_cases h0 : L1 = []
  · subst h0; exact pop1_none h rfl hK
  · exact pop1_some h h0 hl hK
/-- what the world's lists are in memory -/
theorem Sit.has {w0 : Fm} {w : World} {pw N K : Nat} {L0 L1 : List (Nat × Int × Int)} {nx : Int} (h : Sit w0 w pw N K L0 L1 nx) : pw < w.heap.size ∧ ∃ v0 v1 P, w.cell? ⟨pw, 3, none⟩ = some v0 ∧ w.cell? ⟨pw, 4, none⟩ = some v1 ∧ Lz P w v0 L0 ∧ Lz P w v1 L1 := by
  obtain ⟨F, pa, pm, v0, v1, s, t, u, sp, mo, hw, hi, hk, hm⟩ := h
  obtain ⟨_, _, _, c3, c4, _⟩ := hw.cells
  exact ⟨hw.lt, v0, v1, _, c3, c4, hw.l0, hw.l1⟩

end Go.Proofs.Ythfdooigljkfiab
