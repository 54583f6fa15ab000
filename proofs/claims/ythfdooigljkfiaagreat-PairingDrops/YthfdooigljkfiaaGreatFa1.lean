/- The laws' fall. -/
import Derived.Test.YthfdooigljkfiaaGreatGh
import Derived.Test.YthfdooigljkfiaaGreatGl
import Derived.Test.YthfdooigljkfiaaGreatLt
import Derived.Test.YthfdooigljkfiaaGreatCk
namespace Go.Proofs.YthfdooigljkfiaaGreat
open Go.ChangeShapes Go.WideShapes Go.ChangeAt Go.RowKit
open Tr

set_option maxHeartbeats 2000000 in
theorem fall1_none {w0 : Fm} {w : World} {pw N K : Nat} {L0 L1 : List (Nat × Int × Int)} {nx : Int} (at0 by0 : Int) (h : Sit w0 w pw N K L0 L1 nx) (h0 : L1 = []) :
    Calls Tryz.prog 10 #[.pointer (some ⟨pw, 0, none⟩), .int .i64 1, .int .i64 at0, .int .i64 by0] w fun e w' => e = .returned (.bool true) ∧ Sit w0 w' pw N K L0 L1 nx := by
  obtain ⟨F, pa, pm, v0, v1, s, t, u, sp, mo, hw, hi, hk, hm⟩ := h
  have HS := hid (show Sit w0 w pw N K L0 L1 nx from ⟨F, pa, pm, v0, v1, s, t, u, sp, mo, hw, hi, hk, hm⟩)
  obtain ⟨c0, c1, c2, c3, c4, c5, c6, c7, cf⟩ := hw.cells
  have hlt := hw.lt
  obtain ⟨va, vc, hv⟩ := hw.l1.form
  rw [h0] at hv
  subst hv
  clear hw hi hk hm h0 c0 c1 c2 c5 c6 c7 cf
  go_enter Tryz.func10, Tryz.ntmps10
  go_wp2
  go_ret
  exact ⟨rfl, HS.out⟩

set_option maxHeartbeats 4000000 in
set_option maxRecDepth 100000 in
theorem fall1_some {w0 : Fm} {w : World} {pw N K : Nat} {L0 L1 : List (Nat × Int × Int)} {nx : Int} (at0 by0 : Int) (hat : I64 at0) (h : Sit w0 w pw N K L0 L1 nx) (h0 : L1 ≠ []) (hl : L0.length ≤ 700) (hl' : L1.length ≤ 700) (hK : K ≤ 90000000) :
    Calls Tryz.prog 10 #[.pointer (some ⟨pw, 0, none⟩), .int .i64 1, .int .i64 at0, .int .i64 by0] w fun e w' => e = .returned (.bool true) ∧ Sit w0 w' pw N (K + 2000) L0 (fallL at0 by0 L1) nx := by
  obtain ⟨F, pa, pm, v0, v1, s, t, u, sp, mo, hw, hi, hk, hm⟩ := h
  have hpos : 0 < L1.length := List.length_pos_iff.2 h0
  obtain ⟨hkl, hke⟩ := winN_lt at0 hpos
  obtain ⟨k, hkk⟩ : ∃ k, k = winN at0 L1.length := ⟨_, rfl⟩
  rw [← hkk] at hkl hke
  have hx : L1[k]? = some L1[k] := List.getElem?_eq_getElem hkl
  obtain ⟨x, hxx⟩ : ∃ x, x = L1[k] := ⟨_, rfl⟩
  rw [← hxx] at hx
  clear hxx
  obtain ⟨hL, hk1⟩ := split_at hx
  have hb10 := bts_le 10 L1.length (by omega)
  have HW := hid hw
  have HK := hid hk
  have PS := hid (pot_swap s t u)
  have HM := hid hm
  have HI := hid hi
  have HX := hid hx
  have HL := hid hL
  have HK1 := hid hk1
  have HKK := hid hkk
  obtain ⟨c0, c1, c2, c3, c4, c5, c6, c7, cf⟩ := hw.cells
  have hlt := hw.lt
  have hout := hid hw.out
  obtain ⟨b, cap, hv, _, hb, hP, x1, x2, x3⟩ := hw.l1.at hx
  subst hv
  obtain ⟨vb, vd, hvb⟩ := hw.l0.form
  subst hvb
  have hrm := room_two hi
  have htop := hi.ok.top
  obtain ⟨ln2, hln2⟩ : ∃ z, z = L0.length := ⟨_, rfl⟩
  have HLN2 := hid hln2
  obtain ⟨mm, hmm⟩ : ∃ z, z = L1.length + ln2 := ⟨_, rfl⟩
  have HMM := hid hmm
  have hmm4 : mm ≤ 40000 := by omega
  have HM4 := hid hmm4
  have BM1 := hid (bts_le 16 mm (by omega))
  have BMM := hid (bts_mono (show L1.length ≤ mm by omega))
  have HB10 := hid (bts_le 10 L1.length (by omega))
  have hwm : IntKind.i64.wrap (mm : Int) = (mm : Int) := IntWalk.i64_in _ (by omega)
  clear hrm htop hln2 hmm
  have hbF := hid hP.1
  have hbp : b ≠ pw := hP.2
  have hpb : pw ≠ b := fun e => hbp e.symm
  obtain ⟨len, hlen⟩ : ∃ len, len = L1.length := ⟨_, rfl⟩
  have HLEN := hid hlen
  have HL0 := hid hl
  have HL1 := hid hl'
  have h10w : IntKind.i64.wrap 0 = 0 := by decide
  have hsum : (len : Int) + (ln2 : Int) = (mm : Int) := by have := HMM.out; omega
  have hlen1 : ((len : Int) == 0) = false := by simp; omega
  have hwd : IntKind.i64.wrap ((len : Int) - 1) = (len : Int) - 1 := IntWalk.i64_in _ (by omega)
  have WI := hid (fun w1 => within_eq at0 hat ((len : Int) - 1) (by omega) (by omega) w1)
  rw [hlen, hke, ← hlen] at WI
  rw [← hlen] at hkl c4 hb10
  have hlen7 : len ≤ 700 := by omega
  have hkl' : (k : Int) < (len : Int) := by omega
  clear hk hm h0 hx hk1 hkk hlen hke hP hl hl' hpos c1 c2 c3 c5 c6 c7 cf hat hw
  have hkm : (if by0 < x.2.1 then by0 else x.2.1) = min x.2.1 by0 := by split <;> omega
  have HKM := hid hkm
  have FI := hid (fun (key : Int) (hk : key ≤ x.2.1) => (fall_inv hi.swap hL key hk))
  clear hi hL hkm
  generalize hq : s.steps = q at *
  have HQ := hid hq
  have hq1 : q ≤ 90000000 := by have := HK.out; omega
  clear hq
  go_enter Tryz.func10, Tryz.ntmps10
  go_wp2_with fail
  refine (WI.out _).mono ?_
  rintro e w1 ⟨rfl, rfl⟩
  clear WI
  go_upto_region 6 with fail
  rw [HKM.out]
  generalize hkey : min x.2.1 by0 = key at *
  have hkx : key ≤ x.2.1 := by omega
  have HKEY := hid hkey
  clear hkey HKM
  have W2 := hid (HW.out.plain ((Kept.refl _ _).alloc (.cells #[.int .i64 (x.1 : Int), .int .i64 key, .int .i64 x.2.2] 57)))
  have y0 := heap_alloc_new w1 (.cells #[.int .i64 (x.1 : Int), .int .i64 key, .int .i64 x.2.2] 57)
  have y1 := blk_cell (j := 0) (v := .int .i64 (x.1 : Int)) y0 rfl
  have y2 := blk_cell (j := 1) (v := .int .i64 key) y0 rfl
  have y3 := blk_cell (j := 2) (v := .int .i64 x.2.2) y0 rfl
  have hg : w1.heap.size < (w1.alloc (.cells #[.int .i64 (x.1 : Int), .int .i64 key, .int .i64 x.2.2] 57)).heap.size := by simp
  have gF := hid (show ¬ F w1.heap.size from fun z => by have := HW.out.is.lt _ z; omega)
  have gp : w1.heap.size ≠ pw := by omega
  clear HW c0 c4 x1 x2 x3 hb hlt y0
  generalize w1.alloc (.cells #[.int .i64 (x.1 : Int), .int .i64 key, .int .i64 x.2.2] 57) = w2 at *
  generalize w1.heap.size = g at *
  obtain ⟨eB, eS, eM, _⟩ := FI.out key hkx
  have LT := hid (fun w' (k1 : Kept (fun _ => False) w2 w') => lowerT (x.1 : Int) key ((Ex.start W2.out.is).plain k1) (by have := HQ.out; omega))
  rw [eB] at LT
  have ES := hid eS
  have EM := hid eM
  clear eB eS eM FI
  have FA := hid (fun w' w'' (e : Ex F w' w'' pa pm (lowS s (x.1 : Int) key)) => fallC HI.out.swap (by have := HLEN.out; omega) HL.out key hkx e (by have := HK.out; have := HQ.out; have := PS.out; omega))
  generalize lowS s (x.1 : Int) key = sl at *
  generalize hxi : x.1 = i at *
  have HXI := hid hxi
  clear hxi
  obtain ⟨c0, c1, c2, c3, c4, c5, c6, c7, cf⟩ := W2.out.cells
  have hlt := W2.out.lt
  have hout2 := hid W2.out.out
  clear c1 c2 c3 c4 c5 c6 c7 cf hout
  go_wp2_with fail
  go_region_held3 (fun w' => w'.cell? ⟨pw, 0, none⟩ = some (.pointer (some ⟨pa, 0, none⟩)) ∧ w'.cell? ⟨g, 0, none⟩ = some (.int .i64 (i : Int)) ∧ w'.cell? ⟨g, 1, none⟩ = some (.int .i64 key)) (first | exact ⟨c0, y1, y2⟩ | (simp [go_sem]; exact ⟨c0, y1, y2⟩))
    (first
      | (go_at_call 34; refine (LT.out _ (by first | exact Kept.refl _ _ | exact (Kept.refl _ _).drew | exact (Kept.refl _ _).drewN _)).mono ?_; rintro e w3 ⟨rfl, e3⟩; replace c0 := (e3.kept.cell (p := ⟨pw, 0, none⟩) hlt hout2.out).trans c0; replace y1 := (e3.kept.cell (p := ⟨g, 0, none⟩) hg gF.out).trans y1; replace y2 := (e3.kept.cell (p := ⟨g, 1, none⟩) hg gF.out).trans y2; replace y3 := (e3.kept.cell (p := ⟨g, 2, none⟩) hg gF.out).trans y3; have E3 := hid e3; clear e3))
  have W3 := hid (W2.out.ex E3.out)
  have hg3 := Nat.lt_of_lt_of_le hg E3.out.kept.size
  clear c0 hlt hg W2 E3 LT
  obtain ⟨c0, c1, c2, c3, c4, c5, c6, c7, cf⟩ := W3.out.cells
  have hlt := W3.out.lt
  clear c3 c4 c5 c6 c7 cf
  have M := hid (meterA pa pm sl F w3 W3.out.is)
  have T := hid (stepsA pa pm sl F w3 W3.out.is)
  rw [show sl.steps = q + 2 from ES.out] at T
  obtain ⟨q2, hq2⟩ : ∃ q2, q2 = q + 2 := ⟨_, rfl⟩
  rw [← hq2] at T
  have HQ2 := hid hq2
  have hq3 : q2 ≤ 90000002 := by omega
  clear hq2
  go_wp2_with fail
  refine M.out.mono ?_
  rintro e w4 ⟨rfl, rfl⟩
  go_wp2_with fail
  refine T.out.mono ?_
  rintro e w4 ⟨rfl, rfl⟩
  clear M T
  go_wp2_with fail
  go_region_held3 (fun w' => w'.cell? ⟨pw, 0, none⟩ = some (.pointer (some ⟨pa, 0, none⟩)) ∧ w'.cell? ⟨pw, 2, none⟩ = some (.int .i64 (headr u)) ∧ w'.cell? ⟨g, 0, none⟩ = some (.int .i64 (i : Int))) (first | exact ⟨c0, c2, y1⟩ | (simp [go_sem]; exact ⟨c0, c2, y1⟩))
    (first
      | (go_at_call 35; refine (FA.out w4 _ ((Ex.start W3.out.is).plain (by first | exact Kept.refl _ _ | exact (Kept.refl _ _).drew | exact (Kept.refl _ _).drewN _))).mono ?_; rintro e w5 ⟨t', s3, rfl, e5, i3, m3, ge3, le3⟩; replace c0 := (e5.kept.cell (p := ⟨pw, 0, none⟩) hlt hout2.out).trans c0; replace c2 := (e5.kept.cell (p := ⟨pw, 2, none⟩) hlt hout2.out).trans c2; replace y1 := (e5.kept.cell (p := ⟨g, 0, none⟩) hg3 gF.out).trans y1; replace y2 := (e5.kept.cell (p := ⟨g, 1, none⟩) hg3 gF.out).trans y2; replace y3 := (e5.kept.cell (p := ⟨g, 2, none⟩) hg3 gF.out).trans y3; have E5 := hid e5; have I3 := hid i3; have M3 := hid m3; have GE3 := hid ge3; have LE3 := hid le3; clear e5 i3 m3 ge3 le3))
  have W5 := hid (W3.out.ex E5.out)
  have hg5 := Nat.lt_of_lt_of_le hg3 E5.out.kept.size
  clear c0 c1 c2 W3 FA E5 hlt hg3
  obtain ⟨c0, c1, c2, c3, c4, c5, c6, c7, cf⟩ := W5.out.cells
  have hlt5 := W5.out.lt
  have le4 := hid (show s3.steps ≤ 91000000 by have := HB10.out; have := LE3.out; have := HK.out; have := HQ.out; have := HQ2.out; have := PS.out; omega)
  have C := hid (fun w1 (k1 : Kept (fun _ => False) w5 w1) => costWk mm q2 sp mo (by have := HM4.out; omega) (W5.out.plain k1) (by have h1 := GE3.out; have h2 := HQ2.out; have := HQ.out; omega) (by have h1 := le4.out; omega) (by have := HK.out; omega) (by have := HB10.out; have := BMM.out; have := BM1.out; have := LE3.out; have := HK.out; have := HQ.out; have := HQ2.out; have := PS.out; omega))
  rw [← HLEN.out] at C
  rw [← HLN2.out] at C
  rw [← HLEN.out] at c4
  rw [← HLN2.out] at c3
  clear c0 c1 c2 c5 c6 c7 cf
  go_wp2_with fail
  go_region_held3 (fun w' => w'.cell? ⟨pw, 4, none⟩ = some (.slice (some ⟨b, 0, none⟩) len cap) ∧ w'.cell? ⟨pw, 3, none⟩ = some (.slice vb ln2 vd)) (first | exact ⟨c4, c3⟩)
    (first
      | (go_at_call 26; refine (C.out _ (by first | exact Kept.refl _ _ | exact (Kept.refl _ _).drew | exact (Kept.refl _ _).drewN _)).mono ?_; rintro e w6 ⟨rfl, k6', sp', mo', hsp, hmo, h6⟩; have k6 := (Kept.mono (G := fun b => b = pw) (show Kept (fun _ => False) w5 _ by first | exact Kept.refl _ _ | exact (Kept.refl _ _).drew | exact (Kept.refl _ _).drewN _) (fun _ e => e.elim)).trans' k6'; clear k6'; have HSP := hid hsp; have HMO := hid hmo; clear hsp hmo; replace c3 := h6.cells.2.2.2.1; replace c4 := h6.cells.2.2.2.2.1; replace y1 := (k6.cell (p := ⟨g, 0, none⟩) hg5 gp).trans y1; replace y2 := (k6.cell (p := ⟨g, 1, none⟩) hg5 gp).trans y2; replace y3 := (k6.cell (p := ⟨g, 2, none⟩) hg5 gp).trans y3; have hg6 := Nat.lt_of_lt_of_le hg5 k6.size; have H6 := hid h6; clear h6 k6))
  clear C c3 c4 W5 hlt5
  obtain ⟨c0, c1, c2, c3, c4, c5, c6, c7, cf⟩ := H6.out.cells
  have hlt6 := H6.out.lt
  have fR := cf 2
  clear c5 c6 c7 cf c0
  generalize hrt : headr t' = m at *
  have HRT := hid hrt
  clear hrt
  have kk := kept_pw w6 pw 2 (.int .i64 m)
  have W7 := hid (H6.out.wrote (r1' := m) kk (by have b1 := blk_set (j := 2) (u := .int .i64 m) H6.out.blk; simp at b1; exact b1) (H6.out.l0.kept kk fun _ q => q.2) (H6.out.l1.kept kk fun _ q => q.2))
  replace y1 := (kk.cell (p := ⟨g, 0, none⟩) hg6 gp).trans y1
  replace y2 := (kk.cell (p := ⟨g, 1, none⟩) hg6 gp).trans y2
  replace y3 := (kk.cell (p := ⟨g, 2, none⟩) hg6 gp).trans y3
  have hg7 := Nat.lt_of_lt_of_le hg6 kk.size
  clear kk c3 c4
  go_upto_region 13 with fail
  clear c1 c2 fR hlt6 H6 hg6
  generalize w6.setCell ⟨pw, 2, none⟩ (.int .i64 m) = wC at *
  obtain ⟨_, _, _, dd3, dd4, _, _, _, dcf⟩ := W7.out.cells
  have fVC := dcf 4
  have hlC := W7.out.lt
  have dV := dd4
  clear dd3 dd4 dcf
  refine wp_region_noPanic ?_
  refine tl_begin (S := (fun w' => w'.cell? ⟨pw, 4, none⟩ = some (.slice (some ⟨b, 0, none⟩) len cap) ∧ w'.cell? ⟨g, 0, none⟩ = some (.int .i64 (i : Int)) ∧ w'.cell? ⟨g, 1, none⟩ = some (.int .i64 key) ∧ w'.cell? ⟨g, 2, none⟩ = some (.int .i64 x.2.2))) 16 (by kernel_rfl) ?_
  have hHeld : wC.drew.cell? ⟨pw, 4, none⟩ = some (.slice (some ⟨b, 0, none⟩) len cap) ∧ wC.drew.cell? ⟨g, 0, none⟩ = some (.int .i64 (i : Int)) ∧ wC.drew.cell? ⟨g, 1, none⟩ = some (.int .i64 key) ∧ wC.drew.cell? ⟨g, 2, none⟩ = some (.int .i64 x.2.2) := ⟨dV, y1, y2, y3⟩
  have WD := hid (W7.out.drewN 1)
  have hlW : pw < wC.drew.heap.size := hlC
  have hgW : g < wC.drew.heap.size := hg7
  have HH := hid hHeld
  have fV : wC.drew.frozen? ⟨pw, 4, none⟩ = false := fVC
  replace WD : Hid (Wx w0 wC.drew F pw pa pm (.slice vb ln2 vd) (.slice (some ⟨b, 0, none⟩) len cap) s3 (headr t) m L0 L1 nx (sp' : Int) (mo' : Int)) := WD.out
  clear W7 dV fVC hlC y1 y2 y3 hg7
  generalize wC.drew = W at *
  have LW : Hid (Lz (fun b => ¬ F b ∧ b ≠ pw) W (.slice (some ⟨b, 0, none⟩) len cap) (L1.take k ++ x :: L1.drop (k + 1))) := hid (by have := WD.out.l1; rw [← show L1 = L1.take k ++ x :: L1.drop (k + 1) from HL.out]; exact this)
  have WO := hid (fun w1 (k1 : Kept (fun _ => False) W w1) => withoutN _ (L1.take k) (L1.drop (k + 1)) x w1 (LW.out.kept k1 fun _ _ e => e) (by have e : L1.take k ++ x :: L1.drop (k + 1) = L1 := HL.out.symm; rw [e]; have := HLEN.out; omega))
  obtain ⟨len2, hl2⟩ : ∃ len2, len2 = k + (L1.drop (k + 1)).length := ⟨_, rfl⟩
  rw [HK1.out, ← hl2] at WO
  have HL2 := hid hl2
  have hl2k : len2 ≤ 1000 := by rw [hl2]; have := HLEN.out; simp; omega
  clear hl2 LW
  refine tl_take 0 103 (.pointer (some ⟨pw, 0, none⟩)) rfl rfl (by kernel_rfl) (by kernel_rfl) (by kernel_rfl) (fun _ _ _ h => h) (by decide) (by kernel_rfl) (by kernel_rfl) (by rfl) (fun wS hS => by (try dsimp only at hS); go_split_ands; go_simp) (by assumption) ?_
  simp only [Act.put, List.setIfInBounds_toArray, List.set_cons_zero, List.set_cons_succ]
  refine tl_take 1 104 (.int .i64 1) rfl rfl (by kernel_rfl) (by kernel_rfl) (by kernel_rfl) (fun _ _ _ h => h) (by decide) (by kernel_rfl) (by kernel_rfl) (by rfl) (fun wS hS => by (try dsimp only at hS); go_split_ands; go_simp) (by assumption) ?_
  simp only [Act.put, List.setIfInBounds_toArray, List.set_cons_zero, List.set_cons_succ]
  refine tl_take 2 105 (.pointer (some ⟨pw, 0, none⟩)) rfl rfl (by kernel_rfl) (by kernel_rfl) (by kernel_rfl) (fun _ _ _ h => h) (by decide) (by kernel_rfl) (by kernel_rfl) (by rfl) (fun wS hS => by (try dsimp only at hS); go_split_ands; go_simp) (by assumption) ?_
  simp only [Act.put, List.setIfInBounds_toArray, List.set_cons_zero, List.set_cons_succ]
  refine tl_take 3 106 (.int .i64 1) rfl rfl (by kernel_rfl) (by kernel_rfl) (by kernel_rfl) (fun _ _ _ h => h) (by decide) (by kernel_rfl) (by kernel_rfl) (by rfl) (fun wS hS => by (try dsimp only at hS); go_split_ands; go_simp) (by assumption) ?_
  simp only [Act.put, List.setIfInBounds_toArray, List.set_cons_zero, List.set_cons_succ]
  refine tl_take 4 107 (.pointer (some ⟨pw, 0, none⟩)) rfl rfl (by kernel_rfl) (by kernel_rfl) (by kernel_rfl) (fun _ _ _ h => h) (by decide) (by kernel_rfl) (by kernel_rfl) (by rfl) (fun wS hS => by (try dsimp only at hS); go_split_ands; go_simp) (by assumption) ?_
  simp only [Act.put, List.setIfInBounds_toArray, List.set_cons_zero, List.set_cons_succ]
  refine tl_take 5 108 (.pointer (some ⟨pw, 3, none⟩)) rfl rfl (by kernel_rfl) (by kernel_rfl) (by kernel_rfl) (fun _ _ _ h => h) (by decide) (by kernel_rfl) (by kernel_rfl) (by rfl) (fun wS hS => by (try dsimp only at hS); go_split_ands; go_simp) (by assumption) ?_
  simp only [Act.put, List.setIfInBounds_toArray, List.set_cons_zero, List.set_cons_succ]
  refine tl_take 6 109 (.pointer (some ⟨pw, 4, none⟩)) rfl rfl (by kernel_rfl) (by kernel_rfl) (by kernel_rfl) (fun _ _ _ h => h) (by decide) (by kernel_rfl) (by kernel_rfl) (by rfl) (fun wS hS => by (try dsimp only at hS); go_split_ands; go_simp) (by assumption) ?_
  simp only [Act.put, List.setIfInBounds_toArray, List.set_cons_zero, List.set_cons_succ]
  refine tl_take 7 110 (.slice (some ⟨b, 0, none⟩) len cap) rfl rfl (by kernel_rfl) (by kernel_rfl) (by kernel_rfl) (fun _ _ _ h => h) (by decide) (by kernel_rfl) (by kernel_rfl) (by rfl) (fun wS hS => by (try dsimp only at hS); go_split_ands; go_simp) (by assumption) ?_
  simp only [Act.put, List.setIfInBounds_toArray, List.set_cons_zero, List.set_cons_succ]
  refine tl_take 8 111 (.int .i64 (k : Int)) rfl rfl (by kernel_rfl) (by kernel_rfl) (by kernel_rfl) (fun _ _ _ h => h) (by decide) (by kernel_rfl) (by kernel_rfl) (by rfl) (fun wS hS => by (try dsimp only at hS); go_split_ands; go_simp) (by assumption) ?_
  simp only [Act.put, List.setIfInBounds_toArray, List.set_cons_zero, List.set_cons_succ]
  refine tl_take 10 113 (.agg #[.int .i64 (i : Int), .int .i64 key, .int .i64 x.2.2]) rfl rfl (by kernel_rfl) (by kernel_rfl) (by kernel_rfl) (fun _ _ _ h => h) (by decide) (by kernel_rfl) (by kernel_rfl) (by rfl) (fun wS hS => by (try dsimp only at hS); go_split_ands; go_simp) (by assumption) ?_
  simp only [Act.put, List.setIfInBounds_toArray, List.set_cons_zero, List.set_cons_succ]
  refine tl_any 13 116 (.pointer (some ⟨pw, 0, none⟩)) rfl rfl (by kernel_rfl) (by kernel_rfl) (by kernel_rfl) (fun _ _ _ h => h) (by decide) (by rfl) (fun wS => by go_simp) (by assumption) ?_
  simp only [Act.put, List.setIfInBounds_toArray, List.set_cons_zero, List.set_cons_succ]
  refine tl_any 14 117 (.pointer (some ⟨pw, 3, none⟩)) rfl rfl (by kernel_rfl) (by kernel_rfl) (by kernel_rfl) (fun _ _ _ h => h) (by decide) (by rfl) (fun wS => by go_simp) (by assumption) ?_
  simp only [Act.put, List.setIfInBounds_toArray, List.set_cons_zero, List.set_cons_succ]
  clear hHeld
  refine tl_ready (rs := [9, 11]) (by kernel_rfl) (by simp) ?_
  refine AllT.cons rfl (fun K hK => ?_) (AllT.cons rfl (fun K hK => ?_) AllT.nil)
  · go_simp
    refine (WO.out _ (by exact (Kept.refl (fun _ => False) W))).mono ?_
    rintro e w3 ⟨v3, rfl, o3, k3⟩
    have K3 := hid (((Kept.refl (fun _ => False) W)).trans' k3)
    have O3 := hid o3
    obtain ⟨va3, vc3, rfl⟩ := own_form o3
    clear o3 k3
    go_wp2_with fail
    refine hK.out _ _ (fun _ => ⟨(K3.out.cell (p := ⟨pw, 4, none⟩) hlW (fun e => e)).trans HH.out.1, (K3.out.cell (p := ⟨g, 0, none⟩) hgW (fun e => e)).trans HH.out.2.1, (K3.out.cell (p := ⟨g, 1, none⟩) hgW (fun e => e)).trans HH.out.2.2.1, (K3.out.cell (p := ⟨g, 2, none⟩) hgW (fun e => e)).trans HH.out.2.2.2⟩) ?_
    clear hK K
    refine tl_ready (rs := [11]) (by kernel_rfl) (by simp) ?_
    refine AllT.cons rfl (fun K hK => ?_) AllT.nil
    go_simp
    go_wp2_with fail
    refine hK.out _ _ (fun _ => ⟨((K3.out.alloc _).cell (p := ⟨pw, 4, none⟩) hlW (fun e => e)).trans HH.out.1, ((K3.out.alloc _).cell (p := ⟨g, 0, none⟩) hgW (fun e => e)).trans HH.out.2.1, ((K3.out.alloc _).cell (p := ⟨g, 1, none⟩) hgW (fun e => e)).trans HH.out.2.2.1, ((K3.out.alloc _).cell (p := ⟨g, 2, none⟩) hgW (fun e => e)).trans HH.out.2.2.2⟩) ?_
    clear hK K
    refine tl_ready (rs := [12]) (by kernel_rfl) (by simp) ?_
    refine AllT.cons rfl (fun K hK => ?_) AllT.nil
    refine step_append_sz rfl (.tmp 112) (.tmp 114) rfl (W.heap.size) _ (.slice va3 len2 vc3) _ len2 (row h3 (L1.take k ++ L1.drop (k + 1))) [(i, key, x.2.2)] rfl rfl (by exact World.ownsRow.alloc O3.out _) (by exact Sz.one _ _) (by show len2 + 1 ≤ 1000000; omega) (by exact (K3.out.alloc _).size) ?_
    intro v4 w4 o4 g4
    have K4 := hid ((K3.out.alloc _).grown g4 (fun k hk => Or.inr (by have h := (O3.out.lt k hk).1; first | exact h | (simp at h; omega))))
    have O4 := hid o4
    obtain ⟨va4, vc4, rfl⟩ := own_form o4
    clear o4 g4
    generalize hn4 : len2 + [(i, key, x.2.2)].length = n4 at *
    have HN4 := hid hn4
    clear hn4
    go_wp2_with fail
    refine hK.out _ _ (fun _ => ⟨(K4.out.cell (p := ⟨pw, 4, none⟩) hlW (fun e => e)).trans HH.out.1, (K4.out.cell (p := ⟨g, 0, none⟩) hgW (fun e => e)).trans HH.out.2.1, (K4.out.cell (p := ⟨g, 1, none⟩) hgW (fun e => e)).trans HH.out.2.2.1, (K4.out.cell (p := ⟨g, 2, none⟩) hgW (fun e => e)).trans HH.out.2.2.2⟩) ?_
    clear hK K
    have hHeld : w4.cell? ⟨pw, 4, none⟩ = some (.slice (some ⟨b, 0, none⟩) len cap) ∧ w4.cell? ⟨g, 0, none⟩ = some (.int .i64 (i : Int)) ∧ w4.cell? ⟨g, 1, none⟩ = some (.int .i64 key) ∧ w4.cell? ⟨g, 2, none⟩ = some (.int .i64 x.2.2) := ⟨(K4.out.cell (p := ⟨pw, 4, none⟩) hlW (fun e => e)).trans HH.out.1, (K4.out.cell (p := ⟨g, 0, none⟩) hgW (fun e => e)).trans HH.out.2.1, (K4.out.cell (p := ⟨g, 1, none⟩) hgW (fun e => e)).trans HH.out.2.2.1, (K4.out.cell (p := ⟨g, 2, none⟩) hgW (fun e => e)).trans HH.out.2.2.2⟩
    refine tl_take 15 118 (.pointer (some ⟨pw, 4, none⟩)) rfl rfl (by kernel_rfl) (by kernel_rfl) (by kernel_rfl) (fun _ _ _ h => h) (by decide) (by kernel_rfl) (by kernel_rfl) (by rfl) (fun wS hS => by (try dsimp only at hS); go_split_ands; go_simp) (by assumption) ?_
    simp only [Act.put, List.setIfInBounds_toArray]
    clear hHeld
    have fV4 : w4.frozen? ⟨pw, 4, none⟩ = false := (World.frozen?_of_block (K4.out.block pw hlW (fun e => e))).trans fV
    have cV4 := (K4.out.cell (p := ⟨pw, 4, none⟩) hlW (fun e => e)).trans HH.out.1
    have hl4 := Nat.lt_of_lt_of_le hlW K4.out.size
    refine tl_ready (rs := [16]) (by kernel_rfl) (by simp) ?_
    refine AllT.cons rfl (fun K hK => ?_) AllT.nil
    go_simp
    refine hK.out _ _ (fun h => Bool.noConfusion (show true = false from h)) ?_
    clear hK K
    refine tl_done (by kernel_rfl) ?_ _
    refine NoPanic.normal ?_
    go_wp2
    go_ret
    have ef : fallL at0 by0 L1 = L1.take k ++ L1.drop (k + 1) ++ [(i, key, x.2.2)] := by rw [fallL_some (x := x) (by rw [← HKK.out]; exact HX.out)]; unfold cutL; rw [← HKK.out, HKEY.out, HXI.out]
    have er : row h3 (L1.take k ++ L1.drop (k + 1) ++ [(i, key, x.2.2)]) = row h3 (L1.take k ++ L1.drop (k + 1)) ++ row h3 [(i, key, x.2.2)] := by rw [row_append]
    have el : (L1.take k ++ L1.drop (k + 1) ++ [(i, key, x.2.2)]).length = n4 := by rw [← HN4.out, List.length_append, List.length_append, HK1.out, HL2.out]
    have W4 := WD.out.plain K4.out
    have LZ : Lz (fun b => ¬ F b ∧ b ≠ pw) w4 (.slice va4 n4 vc4) (L1.take k ++ L1.drop (k + 1) ++ [(i, key, x.2.2)]) := Lz.of_own (base := W.heap.size) (by rw [er, el]; exact O4.out) (fun b hb _ => by have hb2 : W.heap.size ≤ b := (by first | exact hb | (simp at hb; omega)); exact ⟨fun z => by have := WD.out.is.lt b z; omega, by omega⟩)
    have kk1 := kept_pw w4 pw 4 (.slice va4 n4 vc4)
    have W5 := W4.wrote (v1' := .slice va4 n4 vc4) kk1 (by have b1 := blk_set (j := 4) (u := .slice va4 n4 vc4) W4.blk; simp at b1; exact b1) (W4.l0.kept kk1 fun _ q => q.2) (LZ.kept kk1 fun _ q => q.2)
    rw [← HRT.out, ← ef] at W5
    have I4 := I3.out.swap
    rw [← ef] at I4
    exact ⟨rfl, F, pa, pm, _, _, _, _, _, sp', mo', W5, I4, by rw [pot_swap]; have := LE3.out; have := HK.out; have := HQ.out; have := HQ2.out; have := PS.out; have := HSP.out; have := HMO.out; have := GE3.out; have := HB10.out; have := BMM.out; have := BM1.out; omega, M3.out.trans HM.out⟩
  · go_simp
    go_wp2_with fail
    refine hK.out _ _ (fun _ => ⟨(((Kept.refl (fun _ => False) W).alloc _).cell (p := ⟨pw, 4, none⟩) hlW (fun e => e)).trans HH.out.1, (((Kept.refl (fun _ => False) W).alloc _).cell (p := ⟨g, 0, none⟩) hgW (fun e => e)).trans HH.out.2.1, (((Kept.refl (fun _ => False) W).alloc _).cell (p := ⟨g, 1, none⟩) hgW (fun e => e)).trans HH.out.2.2.1, (((Kept.refl (fun _ => False) W).alloc _).cell (p := ⟨g, 2, none⟩) hgW (fun e => e)).trans HH.out.2.2.2⟩) ?_
    clear hK K
    refine tl_ready (rs := [9]) (by kernel_rfl) (by simp) ?_
    refine AllT.cons rfl (fun K hK => ?_) AllT.nil
    go_simp
    refine (WO.out _ (by exact (Kept.refl (fun _ => False) W).alloc _)).mono ?_
    rintro e w3 ⟨v3, rfl, o3, k3⟩
    have K3 := hid (((Kept.refl (fun _ => False) W).alloc _).trans' k3)
    have KS := hid k3.size
    have XX := hid ((Sz.one W (i, key, x.2.2)).kept (k3.below (by simp) (fun _ e => e.elim)))
    have O3 := hid o3
    obtain ⟨va3, vc3, rfl⟩ := own_form o3
    clear o3 k3
    go_wp2_with fail
    refine hK.out _ _ (fun _ => ⟨(K3.out.cell (p := ⟨pw, 4, none⟩) hlW (fun e => e)).trans HH.out.1, (K3.out.cell (p := ⟨g, 0, none⟩) hgW (fun e => e)).trans HH.out.2.1, (K3.out.cell (p := ⟨g, 1, none⟩) hgW (fun e => e)).trans HH.out.2.2.1, (K3.out.cell (p := ⟨g, 2, none⟩) hgW (fun e => e)).trans HH.out.2.2.2⟩) ?_
    clear hK K
    refine tl_ready (rs := [12]) (by kernel_rfl) (by simp) ?_
    refine AllT.cons rfl (fun K hK => ?_) AllT.nil
    refine step_append_sz rfl (.tmp 112) (.tmp 114) rfl ((W.alloc (.cells #[.int .i64 (i : Int), .int .i64 key, .int .i64 x.2.2] 57)).heap.size) _ (.slice va3 len2 vc3) _ len2 (row h3 (L1.take k ++ L1.drop (k + 1))) [(i, key, x.2.2)] rfl rfl (by exact O3.out) (by exact XX.out) (by show len2 + 1 ≤ 1000000; omega) (by exact KS.out) ?_
    intro v4 w4 o4 g4
    have K4 := hid (K3.out.grown g4 (fun k hk => Or.inr (by have h := (O3.out.lt k hk).1; first | exact h | (simp at h; omega))))
    have O4 := hid o4
    obtain ⟨va4, vc4, rfl⟩ := own_form o4
    clear o4 g4
    generalize hn4 : len2 + [(i, key, x.2.2)].length = n4 at *
    have HN4 := hid hn4
    clear hn4
    go_wp2_with fail
    refine hK.out _ _ (fun _ => ⟨(K4.out.cell (p := ⟨pw, 4, none⟩) hlW (fun e => e)).trans HH.out.1, (K4.out.cell (p := ⟨g, 0, none⟩) hgW (fun e => e)).trans HH.out.2.1, (K4.out.cell (p := ⟨g, 1, none⟩) hgW (fun e => e)).trans HH.out.2.2.1, (K4.out.cell (p := ⟨g, 2, none⟩) hgW (fun e => e)).trans HH.out.2.2.2⟩) ?_
    clear hK K
    have hHeld : w4.cell? ⟨pw, 4, none⟩ = some (.slice (some ⟨b, 0, none⟩) len cap) ∧ w4.cell? ⟨g, 0, none⟩ = some (.int .i64 (i : Int)) ∧ w4.cell? ⟨g, 1, none⟩ = some (.int .i64 key) ∧ w4.cell? ⟨g, 2, none⟩ = some (.int .i64 x.2.2) := ⟨(K4.out.cell (p := ⟨pw, 4, none⟩) hlW (fun e => e)).trans HH.out.1, (K4.out.cell (p := ⟨g, 0, none⟩) hgW (fun e => e)).trans HH.out.2.1, (K4.out.cell (p := ⟨g, 1, none⟩) hgW (fun e => e)).trans HH.out.2.2.1, (K4.out.cell (p := ⟨g, 2, none⟩) hgW (fun e => e)).trans HH.out.2.2.2⟩
    refine tl_take 15 118 (.pointer (some ⟨pw, 4, none⟩)) rfl rfl (by kernel_rfl) (by kernel_rfl) (by kernel_rfl) (fun _ _ _ h => h) (by decide) (by kernel_rfl) (by kernel_rfl) (by rfl) (fun wS hS => by (try dsimp only at hS); go_split_ands; go_simp) (by assumption) ?_
    simp only [Act.put, List.setIfInBounds_toArray]
    clear hHeld
    have fV4 : w4.frozen? ⟨pw, 4, none⟩ = false := (World.frozen?_of_block (K4.out.block pw hlW (fun e => e))).trans fV
    have cV4 := (K4.out.cell (p := ⟨pw, 4, none⟩) hlW (fun e => e)).trans HH.out.1
    have hl4 := Nat.lt_of_lt_of_le hlW K4.out.size
    refine tl_ready (rs := [16]) (by kernel_rfl) (by simp) ?_
    refine AllT.cons rfl (fun K hK => ?_) AllT.nil
    go_simp
    refine hK.out _ _ (fun h => Bool.noConfusion (show true = false from h)) ?_
    clear hK K
    refine tl_done (by kernel_rfl) ?_ _
    refine NoPanic.normal ?_
    go_wp2
    go_ret
    have ef : fallL at0 by0 L1 = L1.take k ++ L1.drop (k + 1) ++ [(i, key, x.2.2)] := by rw [fallL_some (x := x) (by rw [← HKK.out]; exact HX.out)]; unfold cutL; rw [← HKK.out, HKEY.out, HXI.out]
    have er : row h3 (L1.take k ++ L1.drop (k + 1) ++ [(i, key, x.2.2)]) = row h3 (L1.take k ++ L1.drop (k + 1)) ++ row h3 [(i, key, x.2.2)] := by rw [row_append]
    have el : (L1.take k ++ L1.drop (k + 1) ++ [(i, key, x.2.2)]).length = n4 := by rw [← HN4.out, List.length_append, List.length_append, HK1.out, HL2.out]
    have W4 := WD.out.plain K4.out
    have LZ : Lz (fun b => ¬ F b ∧ b ≠ pw) w4 (.slice va4 n4 vc4) (L1.take k ++ L1.drop (k + 1) ++ [(i, key, x.2.2)]) := Lz.of_own (base := (W.alloc (.cells #[.int .i64 (i : Int), .int .i64 key, .int .i64 x.2.2] 57)).heap.size) (by rw [er, el]; exact O4.out) (fun b hb _ => by have hb2 : W.heap.size ≤ b := (by first | exact hb | (simp at hb; omega)); exact ⟨fun z => by have := WD.out.is.lt b z; omega, by omega⟩)
    have kk1 := kept_pw w4 pw 4 (.slice va4 n4 vc4)
    have W5 := W4.wrote (v1' := .slice va4 n4 vc4) kk1 (by have b1 := blk_set (j := 4) (u := .slice va4 n4 vc4) W4.blk; simp at b1; exact b1) (W4.l0.kept kk1 fun _ q => q.2) (LZ.kept kk1 fun _ q => q.2)
    rw [← HRT.out, ← ef] at W5
    have I4 := I3.out.swap
    rw [← ef] at I4
    exact ⟨rfl, F, pa, pm, _, _, _, _, _, sp', mo', W5, I4, by rw [pot_swap]; have := LE3.out; have := HK.out; have := HQ.out; have := HQ2.out; have := PS.out; have := HSP.out; have := HMO.out; have := GE3.out; have := HB10.out; have := BMM.out; have := BM1.out; omega, M3.out.trans HM.out⟩
end Go.Proofs.YthfdooigljkfiaaGreat
