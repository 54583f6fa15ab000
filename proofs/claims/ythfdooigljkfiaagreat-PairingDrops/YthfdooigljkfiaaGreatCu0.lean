/- The laws' cut. -/
import Derived.Test.YthfdooigljkfiaaGreatGh
import Derived.Test.YthfdooigljkfiaaGreatGl
namespace Go.Proofs.YthfdooigljkfiaaGreat
open Go.ChangeShapes Go.WideShapes Go.ChangeAt Go.RowKit
open Tr

set_option maxHeartbeats 2000000 in
theorem cut0_none {w0 : Fm} {w : World} {pw N K : Nat} {L0 L1 : List (Nat × Int × Int)} {nx : Int} (at0 : Int) (h : Sit w0 w pw N K L0 L1 nx) (h0 : L0 = []) :
    Calls Tryz.prog 11 #[.pointer (some ⟨pw, 0, none⟩), .int .i64 0, .int .i64 at0] w fun e w' => e = .returned (.bool true) ∧ Sit w0 w' pw N K L0 L1 nx := by
  obtain ⟨F, pa, pm, v0, v1, s, t, u, sp, mo, hw, hi, hk, hm⟩ := h
  have HS := hid (show Sit w0 w pw N K L0 L1 nx from ⟨F, pa, pm, v0, v1, s, t, u, sp, mo, hw, hi, hk, hm⟩)
  obtain ⟨c0, c1, c2, c3, c4, c5, c6, c7, cf⟩ := hw.cells
  have hlt := hw.lt
  obtain ⟨va, vc, hv⟩ := hw.l0.form
  rw [h0] at hv
  subst hv
  clear hw hi hk hm h0 c0 c1 c2 c5 c6 c7 cf
  go_enter Tryz.func11, Tryz.ntmps11
  go_wp2
  go_ret
  exact ⟨rfl, HS.out⟩

set_option maxHeartbeats 4000000 in
set_option maxRecDepth 100000 in
theorem cut0_some {w0 : Fm} {w : World} {pw N K : Nat} {L0 L1 : List (Nat × Int × Int)} {nx : Int} (at0 : Int) (hat : I64 at0) (h : Sit w0 w pw N K L0 L1 nx) (h0 : L0 ≠ []) (hl : L0.length ≤ 700) (hl' : L1.length ≤ 700) (hK : K ≤ 90000000) :
    Calls Tryz.prog 11 #[.pointer (some ⟨pw, 0, none⟩), .int .i64 0, .int .i64 at0] w fun e w' => e = .returned (.bool true) ∧ Sit w0 w' pw N (K + 2000) (cutL at0 L0) L1 nx := by
  obtain ⟨F, pa, pm, v0, v1, s, t, u, sp, mo, hw, hi, hk, hm⟩ := h
  have hpos : 0 < L0.length := List.length_pos_iff.2 h0
  obtain ⟨hkl, hke⟩ := winN_lt at0 hpos
  obtain ⟨k, hkk⟩ : ∃ k, k = winN at0 L0.length := ⟨_, rfl⟩
  rw [← hkk] at hkl hke
  have hx : L0[k]? = some L0[k] := List.getElem?_eq_getElem hkl
  obtain ⟨x, hxx⟩ : ∃ x, x = L0[k] := ⟨_, rfl⟩
  rw [← hxx] at hx
  clear hxx
  obtain ⟨hL, hk1⟩ := split_at hx
  have hb10 := bts_le 10 L0.length (by omega)
  have HW := hid hw
  have HK := hid hk
  have B1 := hid (bts_pos hpos)
  have HB10 := hid hb10
  have HM := hid hm
  have HI := hid hi
  have HX := hid hx
  have HL := hid hL
  have HK1 := hid hk1
  have HKK := hid hkk
  obtain ⟨c0, c1, c2, c3, c4, c5, c6, c7, cf⟩ := hw.cells
  have hlt := hw.lt
  have hout := hid hw.out
  obtain ⟨b, cap, hv, _, hb, hP, x1, x2, x3⟩ := hw.l0.at hx
  subst hv
  obtain ⟨vb, vd, hvb⟩ := hw.l1.form
  subst hvb
  have hrm := room_two hi
  have htop := hi.ok.top
  obtain ⟨ln2, hln2⟩ : ∃ z, z = L1.length := ⟨_, rfl⟩
  have HLN2 := hid hln2
  obtain ⟨mm, hmm⟩ : ∃ z, z = L0.length + ln2 := ⟨_, rfl⟩
  have HMM := hid hmm
  have hmm4 : mm ≤ 40000 := by omega
  have HM4 := hid hmm4
  have BM1 := hid (bts_le 16 mm (by omega))
  have BMM := hid (bts_mono (show L0.length ≤ mm by omega))
  have hwm : IntKind.i64.wrap (mm : Int) = (mm : Int) := IntWalk.i64_in _ (by omega)
  clear hrm htop hln2 hmm
  have hbF := hid hP.1
  have hbp : b ≠ pw := hP.2
  have hpb : pw ≠ b := fun e => hbp e.symm
  obtain ⟨len, hlen⟩ : ∃ len, len = L0.length := ⟨_, rfl⟩
  have HLEN := hid hlen
  have HL0 := hid hl
  have HL1 := hid hl'
  have h10w : IntKind.i64.wrap 1 = 1 := by decide
  have hsum : (len : Int) + (ln2 : Int) = (mm : Int) := by have := HMM.out; omega
  have hlen1 : ((len : Int) == 0) = false := by simp; omega
  have hwd : IntKind.i64.wrap ((len : Int) - 1) = (len : Int) - 1 := IntWalk.i64_in _ (by omega)
  have WI := hid (fun w1 => within_eq at0 hat ((len : Int) - 1) (by omega) (by omega) w1)
  rw [hlen, hke, ← hlen] at WI
  rw [← hlen] at hkl c3 hb10
  have hlen7 : len ≤ 700 := by omega
  have hkl' : (k : Int) < (len : Int) := by omega
  have P := hid (fun w1 (k1 : Kept (fun _ => False) w w1) => cutC hi (by omega) hL ((Aft.start hw.is).plain k1) (by omega))
  have M := hid (fun w1 (k1 : Kept (fun _ => False) w w1) => meterA pa pm s F w1 (hw.plain k1).is)
  have T := hid (fun w1 (k1 : Kept (fun _ => False) w w1) => stepsA pa pm s F w1 (hw.plain k1).is)
  clear hw hi hk hm h0 hx hL hk1 hkk hlen hke hP hl hl' x2 x3 hpos c5 c6 c7 cf hat
  generalize hq : s.steps = q at *
  have HQ := hid hq
  have hq1 : q ≤ 90000000 := by have := HK.out; omega
  clear hq
  go_enter Tryz.func11, Tryz.ntmps11
  go_wp2_with fail
  refine (WI.out _).mono ?_
  rintro e w1 ⟨rfl, rfl⟩
  clear WI
  go_wp2_with fail
  refine (M.out _ (Kept.refl _ _)).mono ?_
  rintro e w1 ⟨rfl, rfl⟩
  go_wp2_with fail
  refine (T.out _ (Kept.refl _ _)).mono ?_
  rintro e w2 ⟨rfl, rfl⟩
  clear M T x1 hb
  generalize hxi : x.1 = i at *
  have HXI := hid hxi
  clear hxi
  go_wp2_with fail
  go_region_held3 (fun w' => w'.cell? ⟨pw, 0, none⟩ = some (.pointer (some ⟨pa, 0, none⟩)) ∧ w'.cell? ⟨pw, 1, none⟩ = some (.int .i64 (headr t))) (first | exact ⟨c0, c1⟩ | (simp [go_sem]; exact ⟨c0, c1⟩))
    (first
      | (go_at_call 37; refine (P.out _ (by first | exact Kept.refl _ _ | exact (Kept.refl _ _).drew | exact (Kept.refl _ _).drewN _)).mono ?_; rintro e w3 ⟨t', s3, rfl, e3, i3, m3, ge3, le3⟩; replace c0 := (e3.kept.cell (p := ⟨pw, 0, none⟩) hlt hout.out).trans c0; replace c1 := (e3.kept.cell (p := ⟨pw, 1, none⟩) hlt hout.out).trans c1; have E3 := hid e3; have I3 := hid i3; have M3 := hid m3; have GE3 := hid ge3; have LE3 := hid le3; clear e3 i3 m3 ge3 le3))
  have W3 := hid (HW.out.aft E3.out)
  clear c0 c1 c2 c3 c4 hout HW P
  generalize Grow F w2 w3 = G at W3
  obtain ⟨c0, c1, c2, c3, c4, c5, c6, c7, cf⟩ := W3.out.cells
  have hlt3 := W3.out.lt
  have C := hid (fun w1 (k1 : Kept (fun _ => False) w3 w1) => costW mm q sp mo (by have := HM4.out; omega) (W3.out.plain k1) GE3.out (by have := HB10.out; have := LE3.out; have := HK.out; have := HQ.out; omega) (by have := HK.out; omega) (by have := LE3.out; have := HK.out; have := HQ.out; have := B1.out; have := BMM.out; have := BM1.out; omega))
  rw [← HLEN.out] at C
  rw [← HLN2.out] at C
  rw [← HLEN.out] at c3
  rw [← HLN2.out] at c4
  clear c0 c1 c2 c5 c6 c7 cf
  go_wp2_with fail
  go_region_held3 (fun w' => w'.cell? ⟨pw, 3, none⟩ = some (.slice (some ⟨b, 0, none⟩) len cap) ∧ w'.cell? ⟨pw, 4, none⟩ = some (.slice vb ln2 vd)) (first | exact ⟨c3, c4⟩)
    (first
      | (go_at_call 26; refine (C.out _ (by first | exact Kept.refl _ _ | exact (Kept.refl _ _).drew | exact (Kept.refl _ _).drewN _)).mono ?_; rintro e w4 ⟨rfl, sp', mo', hsp, hmo, h4⟩; have HSP := hid hsp; have HMO := hid hmo; clear hsp hmo; replace c3 := h4.cells.2.2.2.1; replace c4 := h4.cells.2.2.2.2.1; have H4 := hid h4; clear h4))
  clear C c3 c4 W3 hlt3
  obtain ⟨c0, c1, c2, c3, c4, c5, c6, c7, cf⟩ := H4.out.cells
  have hlt4 := H4.out.lt
  have fR := cf 1
  have fV := cf 3
  clear c5 c6 c7 cf
  generalize hrt : headr t' = m at *
  have HRT := hid hrt
  clear hrt
  have kk := kept_pw w4 pw 1 (.int .i64 m)
  have W6 := hid (H4.out.wrote (r0' := m) kk (by have b1 := blk_set (j := 1) (u := .int .i64 m) H4.out.blk; simp at b1; exact b1) (H4.out.l0.kept kk fun _ q => q.2) (H4.out.l1.kept kk fun _ q => q.2))
  clear kk
  go_upto_region 10 with fail
  clear c0 c1 c2 c3 c4 fR fV
  obtain ⟨w7, hw7⟩ : ∃ w7, w7 = w4.setCell ⟨pw, 1, none⟩ (.int .i64 m) := ⟨_, rfl⟩
  rw [← hw7] at W6 ⊢
  clear hw7
  have W7 := W6
  obtain ⟨c0, c1, c2, c3, c4, c5, c6, c7, cf⟩ := W7.out.cells
  have hlt7 := W7.out.lt
  have fV := cf 3
  have L7 : Lz (fun b => ¬ G b ∧ b ≠ pw) w7 (.slice (some ⟨b, 0, none⟩) len cap) (L0.take k ++ x :: L0.drop (k + 1)) := by
    have := W7.out.l0
    have e : L0.take k ++ x :: L0.drop (k + 1) = L0 := HL.out.symm
    rw [e]; exact this
  have WO := hid (fun w1 (k1 : Kept (fun _ => False) w7 w1) => withoutN _ (L0.take k) (L0.drop (k + 1)) x w1 (L7.kept k1 fun _ _ e => e) (by have e : L0.take k ++ x :: L0.drop (k + 1) = L0 := HL.out.symm; rw [e]; have := HLEN.out; omega))
  obtain ⟨len2, hl2⟩ : ∃ len2, len2 = k + (L0.drop (k + 1)).length := ⟨_, rfl⟩
  rw [HK1.out, ← hl2] at WO
  have HL2 := hid hl2
  clear hl2
  clear c1 c2 c5 c6 c7 cf L7
  go_wp2_with fail
  go_region_with (go_at_call 36; refine (WO.out _ (by first | exact Kept.refl _ _ | exact (Kept.refl _ _).drew | exact (Kept.refl _ _).drewN _)).mono ?_; rintro e w8 ⟨v', rfl, o8, k8⟩; obtain ⟨va8, vc8, rfl⟩ := own_form o8; have fV8 := (World.frozen?_of_block (k8.block pw hlt7 (fun e => e))).trans fV; have hlt8 := Nat.lt_of_lt_of_le hlt7 k8.size; replace c3 := (k8.cell (p := ⟨pw, 3, none⟩) hlt7 (fun e => e)).trans c3; replace c0 := (k8.cell (p := ⟨pw, 0, none⟩) hlt7 (fun e => e)).trans c0; have O8 := hid o8; have K8 := hid k8; clear o8 k8)
  all_goals
    have ep : cutL at0 L0 = L0.take k ++ L0.drop (k + 1) := by unfold cutL; rw [← HKK.out]
    have el : (L0.take k ++ L0.drop (k + 1)).length = len2 := by rw [List.length_append, HK1.out, HL2.out]
    have W8 := hid (W7.out.plain (((Kept.refl _ _).drewN 1).trans' K8.out))
    have kk := kept_pw w8 pw 3 (.slice va8 len2 vc8)
    have LZ : Lz (fun b => ¬ G b ∧ b ≠ pw) w8 (.slice va8 len2 vc8) (L0.take k ++ L0.drop (k + 1)) := Lz.of_own (base := w7.heap.size) (by rw [el]; exact O8.out) (fun b hb _ => ⟨fun z => by have := W7.out.is.lt b z; omega, by omega⟩)
    have W9 := hid (W8.out.wrote (v0' := .slice va8 len2 vc8) kk (by have b1 := blk_set (j := 3) (u := .slice va8 len2 vc8) W8.out.blk; simp at b1; exact b1) (LZ.kept kk fun _ q => q.2) (W8.out.l1.kept kk fun _ q => q.2))
    have b12 := hid (show s3.steps ≤ 91000000 by have := HB10.out; have := LE3.out; have := HK.out; have := HQ.out; omega)
    have ND := hid (fun n => nodeT (i : Int) (Ex.start (W9.out.drewN n).is) (by have := b12.out; omega))
    rw [show cellS s3 (i : Int) 9 = -1 from cell_neg (j := 9) I3.out.live (by decide) I3.out.free] at ND
    have EP := hid ep
    clear ep el kk LZ
    go_wp2_with fail
    refine (ND.out 0).mono ?_
    rintro e w10 ⟨rfl, e10⟩
    have W10 := hid (W9.out.ex e10)
    clear ND e10
    have GV := hid (giveT (i : Int) (Aft.start W10.out.is) (by show s3.steps + 1 ≤ _; have := b12.out; omega))
    rw [show liveS (tk s3 1) (i : Int) = true from I3.out.live] at GV
    obtain ⟨c0, _⟩ := W10.out.cells
    have hlt10 := W10.out.lt
    go_wp2_with fail
    refine GV.out.mono ?_
    rintro e w11 ⟨rfl, e11⟩
    have W11 := hid (W10.out.aft e11)
    clear GV e11
    go_wp2
    go_ret
    have Z1 := W11.out
    rw [← EP.out, ← HRT.out] at Z1
    have Z2 := (give_inv (I3.out.tk 1))
    rw [← EP.out] at Z2
    exact ⟨rfl, _, pa, pm, _, _, _, _, _, sp', mo', Z1, Z2.1, by rw [give_steps, Z2.2]; show s3.steps + 1 + 1 + pot s3 t' u ≤ _ ∧ sp' + pot s3 t' u ≤ _ ∧ _; have := LE3.out; have := HK.out; have := HQ.out; have := HSP.out; have := HMO.out; have := B1.out; have := BMM.out; have := BM1.out; have := HB10.out; have := HLEN.out; have := GE3.out; omega, by rw [give_most]; exact M3.out.trans HM.out⟩

end Go.Proofs.YthfdooigljkfiaaGreat
