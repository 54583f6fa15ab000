/- Several texts in one. -/
import Derived.Test.YtnkpopeahmjodaaGreatZu
import Derived.Test.YtnkpopeahmjodaaGreatWi
import Derived.Test.YtnkpopeahmjodaaGreatPu
import Derived.Test.YtnkpopeahmjodaaGreatCk
/- The laws' fall. -/
namespace Go.Proofs.YtnkpopeahmjodaaGreat
open Go.ChangeShapes Go.WideShapes Go.ChangeAt Go.RowKit
open Tr

set_option maxHeartbeats 2000000 in
theorem fall0_none {w0 : Fm} {w : World} {pw N K : Nat} {L0 L1 : List (Nat × Int × Int)} {nx : Int} (at0 by0 : Int) (h : Sit w0 w pw N K L0 L1 nx) (h0 : L0 = []) :
    Calls Tryz.prog 18 #[.pointer (some ⟨pw, 0, none⟩), .int .i64 0, .int .i64 at0, .int .i64 by0] w fun e w' => e = .returned (.bool true) ∧ Sit w0 w' pw N K L0 L1 nx := by
  obtain ⟨F, pa, pm, v0, v1, s, t, u, sp, mo, hw, hi, hk, hm⟩ := h
  have HS := hid (show Sit w0 w pw N K L0 L1 nx from ⟨F, pa, pm, v0, v1, s, t, u, sp, mo, hw, hi, hk, hm⟩)
  obtain ⟨c0, c1, c2, c3, c4, c5, c6, c7, cf⟩ := hw.cells
  have hlt := hw.lt
  obtain ⟨va, vc, hv⟩ := hw.l0.form
  rw [h0] at hv
  subst hv
  clear hw hi hk hm h0 c0 c1 c2 c5 c6 c7 cf
  go_enter Tryz.func18, Tryz.ntmps18
  go_wp2
  go_ret
  exact ⟨rfl, HS.out⟩

set_option maxHeartbeats 4000000 in
set_option maxRecDepth 100000 in
theorem fall0_some {w0 : Fm} {w : World} {pw N K : Nat} {L0 L1 : List (Nat × Int × Int)} {nx : Int} (at0 by0 : Int) (hat : I64 at0) (h : Sit w0 w pw N K L0 L1 nx) (h0 : L0 ≠ []) (hl : L0.length ≤ 700) (hl' : L1.length ≤ 700) (hK : K ≤ 90000000) :
    Calls Tryz.prog 18 #[.pointer (some ⟨pw, 0, none⟩), .int .i64 0, .int .i64 at0, .int .i64 by0] w fun e w' => e = .returned (.bool true) ∧ Sit w0 w' pw N (K + 2000) (fallL at0 by0 L0) L1 nx := by
  obtain ⟨F, pa, pm, v0, v1, s, t, u, sp, mo, hw, hi, hk, hm⟩ := h
  have hpos : 0 < L0.length := List.length_pos_iff.2 h0
  obtain ⟨hkl, hke⟩ := winN_lt at0 hpos
  obtain ⟨k, hkk⟩ : ∃ k, k = winN at0 L0.length := ⟨_, rfl⟩
  rw [← hkk] at hkl hke
  have hx : L0[k]? = some L0[k] := List.getElem?_eq_getElem hkl
  obtain ⟨x, hxx⟩ : ∃ x, x = L0[k] := ⟨_, rfl⟩
  rw [← hxx] at hx
  clear hxx
  obtain ⟨hL, hk1⟩ := split_at hx
  have hb10 := bts_le 10 L0.length (by omega)
  have HW := hid hw
  have HK := hid hk
  have HM := hid hm
  have HI := hid hi
  have HX := hid hx
  have HL := hid hL
  have HK1 := hid hk1
  have HKK := hid hkk
  obtain ⟨c0, c1, c2, c3, c4, c5, c6, c7, cf⟩ := hw.cells
  have hlt := hw.lt
  have hout := hid hw.out
  obtain ⟨b, cap, hv, _, hb, hP, x1, x2, x3⟩ := hw.l0.at hx
  subst hv
  have hbF := hid hP.1
  have hbp : b ≠ pw := hP.2
  have hpb : pw ≠ b := fun e => hbp e.symm
  obtain ⟨len, hlen⟩ : ∃ len, len = L0.length := ⟨_, rfl⟩
  have HLEN := hid hlen
  have HL0 := hid hl
  have HL1 := hid hl'
  have hlen1 : ((len : Int) == 0) = false := by simp; omega
  have hwd : IntKind.i64.wrap ((len : Int) - 1) = (len : Int) - 1 := IntWalk.i64_in _ (by omega)
  have WI := hid (fun w1 => within_eq at0 hat ((len : Int) - 1) (by omega) (by omega) w1)
  rw [hlen, hke, ← hlen] at WI
  rw [← hlen] at hkl c3 hb10
  have hlen7 : len ≤ 700 := by omega
  have hkl' : (k : Int) < (len : Int) := by omega
  clear hk hm h0 hx hk1 hkk hlen hke hP hl hl' hpos c1 c2 c4 c5 c6 c7 cf hat hw
  have hkm : (if by0 < x.2.1 then by0 else x.2.1) = min x.2.1 by0 := by split <;> omega
  have HKM := hid hkm
  have FI := hid (fun (key : Int) (hk : key ≤ x.2.1) => (fall_inv hi (by have := HL0.out; have := HL1.out; omega) hL key hk))
  clear hi hL hkm
  generalize hq : s.steps = q at *
  have HQ := hid hq
  have hq1 : q ≤ 90000000 := by have := HK.out; omega
  clear hq
  go_enter Tryz.func18, Tryz.ntmps18
  go_wp2_with fail
  refine (WI.out _).mono ?_
  rintro e w1 ⟨rfl, rfl⟩
  clear WI
  go_upto_region 6 with fail
  rw [HKM.out]
  generalize hkey : min x.2.1 by0 = key at *
  have hkx : key ≤ x.2.1 := by omega
  have HKEY := hid hkey
  clear hkey HKM
  have W2 := hid (HW.out.plain ((Kept.refl _ _).alloc (.cells #[.int .i64 (x.1 : Int), .int .i64 key, .int .i64 x.2.2] 46)))
  have y0 := heap_alloc_new w1 (.cells #[.int .i64 (x.1 : Int), .int .i64 key, .int .i64 x.2.2] 46)
  have y1 := blk_cell (j := 0) (v := .int .i64 (x.1 : Int)) y0 rfl
  have y2 := blk_cell (j := 1) (v := .int .i64 key) y0 rfl
  have y3 := blk_cell (j := 2) (v := .int .i64 x.2.2) y0 rfl
  have hg : w1.heap.size < (w1.alloc (.cells #[.int .i64 (x.1 : Int), .int .i64 key, .int .i64 x.2.2] 46)).heap.size := by simp
  have gF := hid (show ¬ F w1.heap.size from fun z => by have := HW.out.is.lt _ z; omega)
  have gp : w1.heap.size ≠ pw := by omega
  clear HW c0 c3 x1 x2 x3 hb hlt y0
  generalize w1.alloc (.cells #[.int .i64 (x.1 : Int), .int .i64 key, .int .i64 x.2.2] 46) = w2 at *
  generalize w1.heap.size = g at *
  obtain ⟨eB, eS, eM, _⟩ := FI.out key hkx
  have LT := hid (fun w' (k1 : Kept (fun _ => False) w2 w') => lowerT (x.1 : Int) key ((Ex.start W2.out.is).plain k1) (by have := HQ.out; omega))
  rw [eB] at LT
  have ES := hid eS
  have EM := hid eM
  clear eB eS eM FI
  have FA := hid (fun w' w'' (e : Ex F w' w'' pa pm (lowS s (x.1 : Int) key)) => fallC HI.out (by have := HL0.out; have := HL1.out; omega) (by have := HL0.out; have := HL1.out; omega) HL.out key hkx e (by have := HQ.out; omega))
  generalize lowS s (x.1 : Int) key = sl at *
  generalize hxi : x.1 = i at *
  have HXI := hid hxi
  clear hxi
  obtain ⟨c0, c1, c2, c3, c4, c5, c6, c7, cf⟩ := W2.out.cells
  have hlt := W2.out.lt
  have hout2 := hid W2.out.out
  clear c1 c2 c3 c4 c5 c6 c7 cf hout
  go_wp2_with fail
  go_region_held3 (fun w' => w'.cell? ⟨pw, 0, none⟩ = some (.pointer (some ⟨pa, 0, none⟩)) ∧ w'.cell? ⟨g, 0, none⟩ = some (.int .i64 (i : Int)) ∧ w'.cell? ⟨g, 1, none⟩ = some (.int .i64 key)) (first | exact ⟨c0, y1, y2⟩ | (simp [go_sem]; exact ⟨c0, y1, y2⟩))
    (first
      | (go_at_call 38; refine (LT.out _ (by first | exact Kept.refl _ _ | exact (Kept.refl _ _).drew | exact (Kept.refl _ _).drewN _)).mono ?_; rintro e w3 ⟨rfl, e3⟩; replace c0 := (e3.kept.cell (p := ⟨pw, 0, none⟩) hlt hout2.out).trans c0; replace y1 := (e3.kept.cell (p := ⟨g, 0, none⟩) hg gF.out).trans y1; replace y2 := (e3.kept.cell (p := ⟨g, 1, none⟩) hg gF.out).trans y2; replace y3 := (e3.kept.cell (p := ⟨g, 2, none⟩) hg gF.out).trans y3; have E3 := hid e3; clear e3))
  have W3 := hid (W2.out.ex E3.out)
  have hg3 := Nat.lt_of_lt_of_le hg E3.out.kept.size
  clear c0 hlt hg W2 E3 LT
  obtain ⟨c0, c1, c2, c3, c4, c5, c6, c7, cf⟩ := W3.out.cells
  have hlt := W3.out.lt
  clear c3 c4 c5 c6 c7 cf
  have M := hid (meterA pa pm sl F w3 W3.out.is)
  have T := hid (stepsA pa pm sl F w3 W3.out.is)
  rw [show sl.steps = q + 2 from ES.out] at T
  obtain ⟨q2, hq2⟩ : ∃ q2, q2 = q + 2 := ⟨_, rfl⟩
  rw [← hq2] at T
  have HQ2 := hid hq2
  have hq3 : q2 ≤ 90000002 := by omega
  clear hq2
  go_wp2_with fail
  refine M.out.mono ?_
  rintro e w4 ⟨rfl, rfl⟩
  go_wp2_with fail
  refine T.out.mono ?_
  rintro e w4 ⟨rfl, rfl⟩
  clear M T
  go_wp2_with fail
  go_region_held3 (fun w' => w'.cell? ⟨pw, 0, none⟩ = some (.pointer (some ⟨pa, 0, none⟩)) ∧ w'.cell? ⟨pw, 1, none⟩ = some (.int .i64 (Tr.root t)) ∧ w'.cell? ⟨g, 0, none⟩ = some (.int .i64 (i : Int))) (first | exact ⟨c0, c1, y1⟩ | (simp [go_sem]; exact ⟨c0, c1, y1⟩))
    (first
      | (go_at_call 39; refine (FA.out w4 _ ((Ex.start W3.out.is).plain (by first | exact Kept.refl _ _ | exact (Kept.refl _ _).drew | exact (Kept.refl _ _).drewN _))).mono ?_; rintro e w5 ⟨t', s3, rfl, e5, i3, m3, ge3, le3⟩; replace c0 := (e5.kept.cell (p := ⟨pw, 0, none⟩) hlt hout2.out).trans c0; replace c1 := (e5.kept.cell (p := ⟨pw, 1, none⟩) hlt hout2.out).trans c1; replace y1 := (e5.kept.cell (p := ⟨g, 0, none⟩) hg3 gF.out).trans y1; replace y2 := (e5.kept.cell (p := ⟨g, 1, none⟩) hg3 gF.out).trans y2; replace y3 := (e5.kept.cell (p := ⟨g, 2, none⟩) hg3 gF.out).trans y3; have E5 := hid e5; have I3 := hid i3; have M3 := hid m3; have GE3 := hid ge3; have LE3 := hid le3; clear e5 i3 m3 ge3 le3))
  have W5 := hid (W3.out.ex E5.out)
  have hg5 := Nat.lt_of_lt_of_le hg3 E5.out.kept.size
  clear c0 c1 c2 W3 FA E5 hlt hg3
  obtain ⟨c0, c1, c2, c3, c4, c5, c6, c7, cf⟩ := W5.out.cells
  have hlt5 := W5.out.lt
  have le4 := hid (show s3.steps ≤ q2 + (100 + 100 * bts L0.length) by have h1 := LE3.out; have h2 := HQ2.out; rw [HQ.out] at h1; omega)
  have C := hid (costWk L0.length q2 (by have := HLEN.out; omega) W5.out (by have h1 := GE3.out; have h2 := HQ2.out; rw [HQ.out] at h1; omega) (by have h1 := le4.out; rw [← HLEN.out] at h1; omega))
  rw [show decide (s3.steps ≤ q2 + (500 + 400 * bts L0.length)) = true by simp; have := le4.out; omega, ← HLEN.out] at C
  rw [← HLEN.out] at c3
  clear c0 c1 c2 c5 c6 c7 cf
  go_wp2_with fail
  refine C.out.mono ?_
  rintro e w6 ⟨rfl, k6, sp', mo', h6⟩
  have H6 := hid h6
  replace y1 := (k6.cell (p := ⟨g, 0, none⟩) hg5 gp).trans y1
  replace y2 := (k6.cell (p := ⟨g, 1, none⟩) hg5 gp).trans y2
  replace y3 := (k6.cell (p := ⟨g, 2, none⟩) hg5 gp).trans y3
  have hg6 := Nat.lt_of_lt_of_le hg5 k6.size
  clear h6 C c3 c4 W5 hlt5 k6
  obtain ⟨c0, c1, c2, c3, c4, c5, c6, c7, cf⟩ := H6.out.cells
  have hlt6 := H6.out.lt
  have fR := cf 1
  clear c5 c6 c7 cf c0
  generalize hrt : Tr.root t' = m at *
  have HRT := hid hrt
  clear hrt
  have kk := kept_pw w6 pw 1 (.int .i64 m)
  have W7 := hid (H6.out.wrote (r0' := m) kk (by have b1 := blk_set (j := 1) (u := .int .i64 m) H6.out.blk; simp at b1; exact b1) (H6.out.l0.kept kk fun _ q => q.2) (H6.out.l1.kept kk fun _ q => q.2))
  replace y1 := (kk.cell (p := ⟨g, 0, none⟩) hg6 gp).trans y1
  replace y2 := (kk.cell (p := ⟨g, 1, none⟩) hg6 gp).trans y2
  replace y3 := (kk.cell (p := ⟨g, 2, none⟩) hg6 gp).trans y3
  have hg7 := Nat.lt_of_lt_of_le hg6 kk.size
  clear kk c3 c4
  go_upto_region 13 with fail
  clear c1 c2 fR hlt6 H6 hg6
  generalize w6.setCell ⟨pw, 1, none⟩ (.int .i64 m) = wC at *
  obtain ⟨_, _, _, dd3, dd4, _, _, _, dcf⟩ := W7.out.cells
  have fVC := dcf 3
  have hlC := W7.out.lt
  have dV := dd3
  clear dd3 dd4 dcf
  refine wp_region_noPanic ?_
  refine tl_begin (S := (fun w' => w'.cell? ⟨pw, 3, none⟩ = some (.slice (some ⟨b, 0, none⟩) len cap) ∧ w'.cell? ⟨g, 0, none⟩ = some (.int .i64 (i : Int)) ∧ w'.cell? ⟨g, 1, none⟩ = some (.int .i64 key) ∧ w'.cell? ⟨g, 2, none⟩ = some (.int .i64 x.2.2))) 16 (by kernel_rfl) ?_
  have hHeld : wC.drew.cell? ⟨pw, 3, none⟩ = some (.slice (some ⟨b, 0, none⟩) len cap) ∧ wC.drew.cell? ⟨g, 0, none⟩ = some (.int .i64 (i : Int)) ∧ wC.drew.cell? ⟨g, 1, none⟩ = some (.int .i64 key) ∧ wC.drew.cell? ⟨g, 2, none⟩ = some (.int .i64 x.2.2) := ⟨dV, y1, y2, y3⟩
  have WD := hid (W7.out.drewN 1)
  have hlW : pw < wC.drew.heap.size := hlC
  have hgW : g < wC.drew.heap.size := hg7
  have HH := hid hHeld
  have fV : wC.drew.frozen? ⟨pw, 3, none⟩ = false := fVC
  replace WD : Hid (Wx w0 wC.drew F pw pa pm (.slice (some ⟨b, 0, none⟩) len cap) v1 s3 m u.root L0 L1 nx sp' mo') := WD.out
  clear W7 dV fVC hlC y1 y2 y3 hg7
  generalize wC.drew = W at *
  have LW : Hid (Lz (fun b => ¬ F b ∧ b ≠ pw) W (.slice (some ⟨b, 0, none⟩) len cap) (L0.take k ++ x :: L0.drop (k + 1))) := hid (by have := WD.out.l0; rw [← show L0 = L0.take k ++ x :: L0.drop (k + 1) from HL.out]; exact this)
  have WO := hid (fun w1 (k1 : Kept (fun _ => False) W w1) => withoutN _ (L0.take k) (L0.drop (k + 1)) x w1 (LW.out.kept k1 fun _ _ e => e) (by have e : L0.take k ++ x :: L0.drop (k + 1) = L0 := HL.out.symm; rw [e]; have := HLEN.out; omega))
  obtain ⟨len2, hl2⟩ : ∃ len2, len2 = k + (L0.drop (k + 1)).length := ⟨_, rfl⟩
  rw [HK1.out, ← hl2] at WO
  have HL2 := hid hl2
  have hl2k : len2 ≤ 1000 := by rw [hl2]; have := HLEN.out; simp; omega
  clear hl2 LW
  refine tl_take 0 94 (.pointer (some ⟨pw, 0, none⟩)) rfl rfl (by kernel_rfl) (by kernel_rfl) (by kernel_rfl) (fun _ _ _ h => h) (by decide) (by kernel_rfl) (by kernel_rfl) (by rfl) (fun wS hS => by (try dsimp only at hS); go_split_ands; go_simp) (by assumption) ?_
  simp only [Act.put, List.setIfInBounds_toArray, List.set_cons_zero, List.set_cons_succ]
  refine tl_take 1 95 (.int .i64 0) rfl rfl (by kernel_rfl) (by kernel_rfl) (by kernel_rfl) (fun _ _ _ h => h) (by decide) (by kernel_rfl) (by kernel_rfl) (by rfl) (fun wS hS => by (try dsimp only at hS); go_split_ands; go_simp) (by assumption) ?_
  simp only [Act.put, List.setIfInBounds_toArray, List.set_cons_zero, List.set_cons_succ]
  refine tl_take 2 96 (.pointer (some ⟨pw, 0, none⟩)) rfl rfl (by kernel_rfl) (by kernel_rfl) (by kernel_rfl) (fun _ _ _ h => h) (by decide) (by kernel_rfl) (by kernel_rfl) (by rfl) (fun wS hS => by (try dsimp only at hS); go_split_ands; go_simp) (by assumption) ?_
  simp only [Act.put, List.setIfInBounds_toArray, List.set_cons_zero, List.set_cons_succ]
  refine tl_take 3 97 (.int .i64 0) rfl rfl (by kernel_rfl) (by kernel_rfl) (by kernel_rfl) (fun _ _ _ h => h) (by decide) (by kernel_rfl) (by kernel_rfl) (by rfl) (fun wS hS => by (try dsimp only at hS); go_split_ands; go_simp) (by assumption) ?_
  simp only [Act.put, List.setIfInBounds_toArray, List.set_cons_zero, List.set_cons_succ]
  refine tl_take 4 98 (.pointer (some ⟨pw, 0, none⟩)) rfl rfl (by kernel_rfl) (by kernel_rfl) (by kernel_rfl) (fun _ _ _ h => h) (by decide) (by kernel_rfl) (by kernel_rfl) (by rfl) (fun wS hS => by (try dsimp only at hS); go_split_ands; go_simp) (by assumption) ?_
  simp only [Act.put, List.setIfInBounds_toArray, List.set_cons_zero, List.set_cons_succ]
  refine tl_take 5 99 (.pointer (some ⟨pw, 3, none⟩)) rfl rfl (by kernel_rfl) (by kernel_rfl) (by kernel_rfl) (fun _ _ _ h => h) (by decide) (by kernel_rfl) (by kernel_rfl) (by rfl) (fun wS hS => by (try dsimp only at hS); go_split_ands; go_simp) (by assumption) ?_
  simp only [Act.put, List.setIfInBounds_toArray, List.set_cons_zero, List.set_cons_succ]
  refine tl_take 6 100 (.pointer (some ⟨pw, 3, none⟩)) rfl rfl (by kernel_rfl) (by kernel_rfl) (by kernel_rfl) (fun _ _ _ h => h) (by decide) (by kernel_rfl) (by kernel_rfl) (by rfl) (fun wS hS => by (try dsimp only at hS); go_split_ands; go_simp) (by assumption) ?_
  simp only [Act.put, List.setIfInBounds_toArray, List.set_cons_zero, List.set_cons_succ]
  refine tl_take 7 101 (.slice (some ⟨b, 0, none⟩) len cap) rfl rfl (by kernel_rfl) (by kernel_rfl) (by kernel_rfl) (fun _ _ _ h => h) (by decide) (by kernel_rfl) (by kernel_rfl) (by rfl) (fun wS hS => by (try dsimp only at hS); go_split_ands; go_simp) (by assumption) ?_
  simp only [Act.put, List.setIfInBounds_toArray, List.set_cons_zero, List.set_cons_succ]
  refine tl_take 8 102 (.int .i64 (k : Int)) rfl rfl (by kernel_rfl) (by kernel_rfl) (by kernel_rfl) (fun _ _ _ h => h) (by decide) (by kernel_rfl) (by kernel_rfl) (by rfl) (fun wS hS => by (try dsimp only at hS); go_split_ands; go_simp) (by assumption) ?_
  simp only [Act.put, List.setIfInBounds_toArray, List.set_cons_zero, List.set_cons_succ]
  refine tl_take 10 104 (.agg #[.int .i64 (i : Int), .int .i64 key, .int .i64 x.2.2]) rfl rfl (by kernel_rfl) (by kernel_rfl) (by kernel_rfl) (fun _ _ _ h => h) (by decide) (by kernel_rfl) (by kernel_rfl) (by rfl) (fun wS hS => by (try dsimp only at hS); go_split_ands; go_simp) (by assumption) ?_
  simp only [Act.put, List.setIfInBounds_toArray, List.set_cons_zero, List.set_cons_succ]
  refine tl_any 13 107 (.pointer (some ⟨pw, 0, none⟩)) rfl rfl (by kernel_rfl) (by kernel_rfl) (by kernel_rfl) (fun _ _ _ h => h) (by decide) (by rfl) (fun wS => by go_simp) (by assumption) ?_
  simp only [Act.put, List.setIfInBounds_toArray, List.set_cons_zero, List.set_cons_succ]
  refine tl_any 14 108 (.pointer (some ⟨pw, 3, none⟩)) rfl rfl (by kernel_rfl) (by kernel_rfl) (by kernel_rfl) (fun _ _ _ h => h) (by decide) (by rfl) (fun wS => by go_simp) (by assumption) ?_
  simp only [Act.put, List.setIfInBounds_toArray, List.set_cons_zero, List.set_cons_succ]
  clear hHeld
  refine tl_ready (rs := [9, 11]) (by kernel_rfl) (by simp) ?_
  refine AllT.cons rfl (fun K hK => ?_) (AllT.cons rfl (fun K hK => ?_) AllT.nil)
  · go_simp
    refine (WO.out _ (by exact (Kept.refl (fun _ => False) W))).mono ?_
    rintro e w3 ⟨v3, rfl, o3, k3⟩
    have K3 := hid (((Kept.refl (fun _ => False) W)).trans' k3)
    have O3 := hid o3
    obtain ⟨va3, vc3, rfl⟩ := own_form o3
    clear o3 k3
    go_wp2_with fail
    refine hK.out _ _ (fun _ => ⟨(K3.out.cell (p := ⟨pw, 3, none⟩) hlW (fun e => e)).trans HH.out.1, (K3.out.cell (p := ⟨g, 0, none⟩) hgW (fun e => e)).trans HH.out.2.1, (K3.out.cell (p := ⟨g, 1, none⟩) hgW (fun e => e)).trans HH.out.2.2.1, (K3.out.cell (p := ⟨g, 2, none⟩) hgW (fun e => e)).trans HH.out.2.2.2⟩) ?_
    clear hK K
    refine tl_ready (rs := [11]) (by kernel_rfl) (by simp) ?_
    refine AllT.cons rfl (fun K hK => ?_) AllT.nil
    go_simp
    go_wp2_with fail
    refine hK.out _ _ (fun _ => ⟨((K3.out.alloc _).cell (p := ⟨pw, 3, none⟩) hlW (fun e => e)).trans HH.out.1, ((K3.out.alloc _).cell (p := ⟨g, 0, none⟩) hgW (fun e => e)).trans HH.out.2.1, ((K3.out.alloc _).cell (p := ⟨g, 1, none⟩) hgW (fun e => e)).trans HH.out.2.2.1, ((K3.out.alloc _).cell (p := ⟨g, 2, none⟩) hgW (fun e => e)).trans HH.out.2.2.2⟩) ?_
    clear hK K
    refine tl_ready (rs := [12]) (by kernel_rfl) (by simp) ?_
    refine AllT.cons rfl (fun K hK => ?_) AllT.nil
    refine step_append_sz rfl (.tmp 103) (.tmp 105) rfl (W.heap.size) _ (.slice va3 len2 vc3) _ len2 (row h3 (L0.take k ++ L0.drop (k + 1))) [(i, key, x.2.2)] rfl rfl (by exact World.ownsRow.alloc O3.out _) (by exact Sz.one _ _) (by show len2 + 1 ≤ 1000000; omega) (by exact (K3.out.alloc _).size) ?_
    intro v4 w4 o4 g4
    have K4 := hid ((K3.out.alloc _).grown g4 (fun k hk => Or.inr (by have h := (O3.out.lt k hk).1; first | exact h | (simp at h; omega))))
    have O4 := hid o4
    obtain ⟨va4, vc4, rfl⟩ := own_form o4
    clear o4 g4
    generalize hn4 : len2 + [(i, key, x.2.2)].length = n4 at *
    have HN4 := hid hn4
    clear hn4
    go_wp2_with fail
    refine hK.out _ _ (fun _ => ⟨(K4.out.cell (p := ⟨pw, 3, none⟩) hlW (fun e => e)).trans HH.out.1, (K4.out.cell (p := ⟨g, 0, none⟩) hgW (fun e => e)).trans HH.out.2.1, (K4.out.cell (p := ⟨g, 1, none⟩) hgW (fun e => e)).trans HH.out.2.2.1, (K4.out.cell (p := ⟨g, 2, none⟩) hgW (fun e => e)).trans HH.out.2.2.2⟩) ?_
    clear hK K
    have hHeld : w4.cell? ⟨pw, 3, none⟩ = some (.slice (some ⟨b, 0, none⟩) len cap) ∧ w4.cell? ⟨g, 0, none⟩ = some (.int .i64 (i : Int)) ∧ w4.cell? ⟨g, 1, none⟩ = some (.int .i64 key) ∧ w4.cell? ⟨g, 2, none⟩ = some (.int .i64 x.2.2) := ⟨(K4.out.cell (p := ⟨pw, 3, none⟩) hlW (fun e => e)).trans HH.out.1, (K4.out.cell (p := ⟨g, 0, none⟩) hgW (fun e => e)).trans HH.out.2.1, (K4.out.cell (p := ⟨g, 1, none⟩) hgW (fun e => e)).trans HH.out.2.2.1, (K4.out.cell (p := ⟨g, 2, none⟩) hgW (fun e => e)).trans HH.out.2.2.2⟩
    refine tl_take 15 109 (.pointer (some ⟨pw, 3, none⟩)) rfl rfl (by kernel_rfl) (by kernel_rfl) (by kernel_rfl) (fun _ _ _ h => h) (by decide) (by kernel_rfl) (by kernel_rfl) (by rfl) (fun wS hS => by (try dsimp only at hS); go_split_ands; go_simp) (by assumption) ?_
    simp only [Act.put, List.setIfInBounds_toArray]
    clear hHeld
    have fV4 : w4.frozen? ⟨pw, 3, none⟩ = false := (World.frozen?_of_block (K4.out.block pw hlW (fun e => e))).trans fV
    have cV4 := (K4.out.cell (p := ⟨pw, 3, none⟩) hlW (fun e => e)).trans HH.out.1
    have hl4 := Nat.lt_of_lt_of_le hlW K4.out.size
    refine tl_ready (rs := [16]) (by kernel_rfl) (by simp) ?_
    refine AllT.cons rfl (fun K hK => ?_) AllT.nil
    go_simp
    refine hK.out _ _ (fun h => Bool.noConfusion (show true = false from h)) ?_
    clear hK K
    refine tl_done (by kernel_rfl) ?_ _
    refine NoPanic.normal ?_
    go_wp2
    go_ret
    have ef : fallL at0 by0 L0 = L0.take k ++ L0.drop (k + 1) ++ [(i, key, x.2.2)] := by rw [fallL_some (x := x) (by rw [← HKK.out]; exact HX.out)]; unfold cutL; rw [← HKK.out, HKEY.out, HXI.out]
    have er : row h3 (L0.take k ++ L0.drop (k + 1) ++ [(i, key, x.2.2)]) = row h3 (L0.take k ++ L0.drop (k + 1)) ++ row h3 [(i, key, x.2.2)] := by rw [row_append]
    have el : (L0.take k ++ L0.drop (k + 1) ++ [(i, key, x.2.2)]).length = n4 := by rw [← HN4.out, List.length_append, List.length_append, HK1.out, HL2.out]
    have W4 := WD.out.plain K4.out
    have LZ : Lz (fun b => ¬ F b ∧ b ≠ pw) w4 (.slice va4 n4 vc4) (L0.take k ++ L0.drop (k + 1) ++ [(i, key, x.2.2)]) := Lz.of_own (base := W.heap.size) (by rw [er, el]; exact O4.out) (fun b hb _ => by have hb2 : W.heap.size ≤ b := (by first | exact hb | (simp at hb; omega)); exact ⟨fun z => by have := WD.out.is.lt b z; omega, by omega⟩)
    have kk1 := kept_pw w4 pw 3 (.slice va4 n4 vc4)
    have W5 := W4.wrote (v0' := .slice va4 n4 vc4) kk1 (by have b1 := blk_set (j := 3) (u := .slice va4 n4 vc4) W4.blk; simp at b1; exact b1) (LZ.kept kk1 fun _ q => q.2) (W4.l1.kept kk1 fun _ q => q.2)
    rw [← HRT.out, ← ef] at W5
    have I4 := I3.out
    rw [← ef] at I4
    exact ⟨rfl, F, pa, pm, _, _, _, _, _, sp', mo', W5, I4, by have h1 := le4.out; rw [← HLEN.out] at h1; have h2 := HQ2.out; have h3 := HK.out; omega, M3.out.trans HM.out⟩
  · go_simp
    go_wp2_with fail
    refine hK.out _ _ (fun _ => ⟨(((Kept.refl (fun _ => False) W).alloc _).cell (p := ⟨pw, 3, none⟩) hlW (fun e => e)).trans HH.out.1, (((Kept.refl (fun _ => False) W).alloc _).cell (p := ⟨g, 0, none⟩) hgW (fun e => e)).trans HH.out.2.1, (((Kept.refl (fun _ => False) W).alloc _).cell (p := ⟨g, 1, none⟩) hgW (fun e => e)).trans HH.out.2.2.1, (((Kept.refl (fun _ => False) W).alloc _).cell (p := ⟨g, 2, none⟩) hgW (fun e => e)).trans HH.out.2.2.2⟩) ?_
    clear hK K
    refine tl_ready (rs := [9]) (by kernel_rfl) (by simp) ?_
    refine AllT.cons rfl (fun K hK => ?_) AllT.nil
    go_simp
    refine (WO.out _ (by exact (Kept.refl (fun _ => False) W).alloc _)).mono ?_
    rintro e w3 ⟨v3, rfl, o3, k3⟩
    have K3 := hid (((Kept.refl (fun _ => False) W).alloc _).trans' k3)
    have KS := hid k3.size
    have XX := hid ((Sz.one W (i, key, x.2.2)).kept (k3.below (by simp) (fun _ e => e.elim)))
    have O3 := hid o3
    obtain ⟨va3, vc3, rfl⟩ := own_form o3
    clear o3 k3
    go_wp2_with fail
    refine hK.out _ _ (fun _ => ⟨(K3.out.cell (p := ⟨pw, 3, none⟩) hlW (fun e => e)).trans HH.out.1, (K3.out.cell (p := ⟨g, 0, none⟩) hgW (fun e => e)).trans HH.out.2.1, (K3.out.cell (p := ⟨g, 1, none⟩) hgW (fun e => e)).trans HH.out.2.2.1, (K3.out.cell (p := ⟨g, 2, none⟩) hgW (fun e => e)).trans HH.out.2.2.2⟩) ?_
    clear hK K
    refine tl_ready (rs := [12]) (by kernel_rfl) (by simp) ?_
    refine AllT.cons rfl (fun K hK => ?_) AllT.nil
    refine step_append_sz rfl (.tmp 103) (.tmp 105) rfl ((W.alloc (.cells #[.int .i64 (i : Int), .int .i64 key, .int .i64 x.2.2] 46)).heap.size) _ (.slice va3 len2 vc3) _ len2 (row h3 (L0.take k ++ L0.drop (k + 1))) [(i, key, x.2.2)] rfl rfl (by exact O3.out) (by exact XX.out) (by show len2 + 1 ≤ 1000000; omega) (by exact KS.out) ?_
    intro v4 w4 o4 g4
    have K4 := hid (K3.out.grown g4 (fun k hk => Or.inr (by have h := (O3.out.lt k hk).1; first | exact h | (simp at h; omega))))
    have O4 := hid o4
    obtain ⟨va4, vc4, rfl⟩ := own_form o4
    clear o4 g4
    generalize hn4 : len2 + [(i, key, x.2.2)].length = n4 at *
    have HN4 := hid hn4
    clear hn4
    go_wp2_with fail
    refine hK.out _ _ (fun _ => ⟨(K4.out.cell (p := ⟨pw, 3, none⟩) hlW (fun e => e)).trans HH.out.1, (K4.out.cell (p := ⟨g, 0, none⟩) hgW (fun e => e)).trans HH.out.2.1, (K4.out.cell (p := ⟨g, 1, none⟩) hgW (fun e => e)).trans HH.out.2.2.1, (K4.out.cell (p := ⟨g, 2, none⟩) hgW (fun e => e)).trans HH.out.2.2.2⟩) ?_
    clear hK K
    have hHeld : w4.cell? ⟨pw, 3, none⟩ = some (.slice (some ⟨b, 0, none⟩) len cap) ∧ w4.cell? ⟨g, 0, none⟩ = some (.int .i64 (i : Int)) ∧ w4.cell? ⟨g, 1, none⟩ = some (.int .i64 key) ∧ w4.cell? ⟨g, 2, none⟩ = some (.int .i64 x.2.2) := ⟨(K4.out.cell (p := ⟨pw, 3, none⟩) hlW (fun e => e)).trans HH.out.1, (K4.out.cell (p := ⟨g, 0, none⟩) hgW (fun e => e)).trans HH.out.2.1, (K4.out.cell (p := ⟨g, 1, none⟩) hgW (fun e => e)).trans HH.out.2.2.1, (K4.out.cell (p := ⟨g, 2, none⟩) hgW (fun e => e)).trans HH.out.2.2.2⟩
    refine tl_take 15 109 (.pointer (some ⟨pw, 3, none⟩)) rfl rfl (by kernel_rfl) (by kernel_rfl) (by kernel_rfl) (fun _ _ _ h => h) (by decide) (by kernel_rfl) (by kernel_rfl) (by rfl) (fun wS hS => by (try dsimp only at hS); go_split_ands; go_simp) (by assumption) ?_
    simp only [Act.put, List.setIfInBounds_toArray]
    clear hHeld
    have fV4 : w4.frozen? ⟨pw, 3, none⟩ = false := (World.frozen?_of_block (K4.out.block pw hlW (fun e => e))).trans fV
    have cV4 := (K4.out.cell (p := ⟨pw, 3, none⟩) hlW (fun e => e)).trans HH.out.1
    have hl4 := Nat.lt_of_lt_of_le hlW K4.out.size
    refine tl_ready (rs := [16]) (by kernel_rfl) (by simp) ?_
    refine AllT.cons rfl (fun K hK => ?_) AllT.nil
    go_simp
    refine hK.out _ _ (fun h => Bool.noConfusion (show true = false from h)) ?_
    clear hK K
    refine tl_done (by kernel_rfl) ?_ _
    refine NoPanic.normal ?_
    go_wp2
    go_ret
    have ef : fallL at0 by0 L0 = L0.take k ++ L0.drop (k + 1) ++ [(i, key, x.2.2)] := by rw [fallL_some (x := x) (by rw [← HKK.out]; exact HX.out)]; unfold cutL; rw [← HKK.out, HKEY.out, HXI.out]
    have er : row h3 (L0.take k ++ L0.drop (k + 1) ++ [(i, key, x.2.2)]) = row h3 (L0.take k ++ L0.drop (k + 1)) ++ row h3 [(i, key, x.2.2)] := by rw [row_append]
    have el : (L0.take k ++ L0.drop (k + 1) ++ [(i, key, x.2.2)]).length = n4 := by rw [← HN4.out, List.length_append, List.length_append, HK1.out, HL2.out]
    have W4 := WD.out.plain K4.out
    have LZ : Lz (fun b => ¬ F b ∧ b ≠ pw) w4 (.slice va4 n4 vc4) (L0.take k ++ L0.drop (k + 1) ++ [(i, key, x.2.2)]) := Lz.of_own (base := (W.alloc (.cells #[.int .i64 (i : Int), .int .i64 key, .int .i64 x.2.2] 46)).heap.size) (by rw [er, el]; exact O4.out) (fun b hb _ => by have hb2 : W.heap.size ≤ b := (by first | exact hb | (simp at hb; omega)); exact ⟨fun z => by have := WD.out.is.lt b z; omega, by omega⟩)
    have kk1 := kept_pw w4 pw 3 (.slice va4 n4 vc4)
    have W5 := W4.wrote (v0' := .slice va4 n4 vc4) kk1 (by have b1 := blk_set (j := 3) (u := .slice va4 n4 vc4) W4.blk; simp at b1; exact b1) (LZ.kept kk1 fun _ q => q.2) (W4.l1.kept kk1 fun _ q => q.2)
    rw [← HRT.out, ← ef] at W5
    have I4 := I3.out
    rw [← ef] at I4
    exact ⟨rfl, F, pa, pm, _, _, _, _, _, sp', mo', W5, I4, by have h1 := le4.out; rw [← HLEN.out] at h1; have h2 := HQ2.out; have h3 := HK.out; omega, M3.out.trans HM.out⟩
end Go.Proofs.YtnkpopeahmjodaaGreat

/- The laws' fall. -/
namespace Go.Proofs.YtnkpopeahmjodaaGreat
open Go.ChangeShapes Go.WideShapes Go.ChangeAt Go.RowKit
open Tr

set_option maxHeartbeats 2000000 in
theorem fall1_none {w0 : Fm} {w : World} {pw N K : Nat} {L0 L1 : List (Nat × Int × Int)} {nx : Int} (at0 by0 : Int) (h : Sit w0 w pw N K L0 L1 nx) (h0 : L1 = []) :
    Calls Tryz.prog 18 #[.pointer (some ⟨pw, 0, none⟩), .int .i64 1, .int .i64 at0, .int .i64 by0] w fun e w' => e = .returned (.bool true) ∧ Sit w0 w' pw N K L0 L1 nx := by
  obtain ⟨F, pa, pm, v0, v1, s, t, u, sp, mo, hw, hi, hk, hm⟩ := h
  have HS := hid (show Sit w0 w pw N K L0 L1 nx from ⟨F, pa, pm, v0, v1, s, t, u, sp, mo, hw, hi, hk, hm⟩)
  obtain ⟨c0, c1, c2, c3, c4, c5, c6, c7, cf⟩ := hw.cells
  have hlt := hw.lt
  obtain ⟨va, vc, hv⟩ := hw.l1.form
  rw [h0] at hv
  subst hv
  clear hw hi hk hm h0 c0 c1 c2 c5 c6 c7 cf
  go_enter Tryz.func18, Tryz.ntmps18
  go_wp2
  go_ret
  exact ⟨rfl, HS.out⟩

set_option maxHeartbeats 4000000 in
set_option maxRecDepth 100000 in
theorem fall1_some {w0 : Fm} {w : World} {pw N K : Nat} {L0 L1 : List (Nat × Int × Int)} {nx : Int} (at0 by0 : Int) (hat : I64 at0) (h : Sit w0 w pw N K L0 L1 nx) (h0 : L1 ≠ []) (hl : L0.length ≤ 700) (hl' : L1.length ≤ 700) (hK : K ≤ 90000000) :
    Calls Tryz.prog 18 #[.pointer (some ⟨pw, 0, none⟩), .int .i64 1, .int .i64 at0, .int .i64 by0] w fun e w' => e = .returned (.bool true) ∧ Sit w0 w' pw N (K + 2000) L0 (fallL at0 by0 L1) nx := by
  obtain ⟨F, pa, pm, v0, v1, s, t, u, sp, mo, hw, hi, hk, hm⟩ := h
  have hpos : 0 < L1.length := List.length_pos_iff.2 h0
  obtain ⟨hkl, hke⟩ := winN_lt at0 hpos
  obtain ⟨k, hkk⟩ : ∃ k, k = winN at0 L1.length := ⟨_, rfl⟩
  rw [← hkk] at hkl hke
  have hx : L1[k]? = some L1[k] := List.getElem?_eq_getElem hkl
  obtain ⟨x, hxx⟩ : ∃ x, x = L1[k] := ⟨_, rfl⟩
  rw [← hxx] at hx
  clear hxx
  obtain ⟨hL, hk1⟩ := split_at hx
  have hb10 := bts_le 10 L1.length (by omega)
  have HW := hid hw
  have HK := hid hk
  have HM := hid hm
  have HI := hid hi
  have HX := hid hx
  have HL := hid hL
  have HK1 := hid hk1
  have HKK := hid hkk
  obtain ⟨c0, c1, c2, c3, c4, c5, c6, c7, cf⟩ := hw.cells
  have hlt := hw.lt
  have hout := hid hw.out
  obtain ⟨b, cap, hv, _, hb, hP, x1, x2, x3⟩ := hw.l1.at hx
  subst hv
  have hbF := hid hP.1
  have hbp : b ≠ pw := hP.2
  have hpb : pw ≠ b := fun e => hbp e.symm
  obtain ⟨len, hlen⟩ : ∃ len, len = L1.length := ⟨_, rfl⟩
  have HLEN := hid hlen
  have HL0 := hid hl
  have HL1 := hid hl'
  have hlen1 : ((len : Int) == 0) = false := by simp; omega
  have hwd : IntKind.i64.wrap ((len : Int) - 1) = (len : Int) - 1 := IntWalk.i64_in _ (by omega)
  have WI := hid (fun w1 => within_eq at0 hat ((len : Int) - 1) (by omega) (by omega) w1)
  rw [hlen, hke, ← hlen] at WI
  rw [← hlen] at hkl c4 hb10
  have hlen7 : len ≤ 700 := by omega
  have hkl' : (k : Int) < (len : Int) := by omega
  clear hk hm h0 hx hk1 hkk hlen hke hP hl hl' hpos c1 c2 c3 c5 c6 c7 cf hat hw
  have hkm : (if by0 < x.2.1 then by0 else x.2.1) = min x.2.1 by0 := by split <;> omega
  have HKM := hid hkm
  have FI := hid (fun (key : Int) (hk : key ≤ x.2.1) => (fall_inv hi.swap (by have := HL0.out; have := HL1.out; omega) hL key hk))
  clear hi hL hkm
  generalize hq : s.steps = q at *
  have HQ := hid hq
  have hq1 : q ≤ 90000000 := by have := HK.out; omega
  clear hq
  go_enter Tryz.func18, Tryz.ntmps18
  go_wp2_with fail
  refine (WI.out _).mono ?_
  rintro e w1 ⟨rfl, rfl⟩
  clear WI
  go_upto_region 6 with fail
  rw [HKM.out]
  generalize hkey : min x.2.1 by0 = key at *
  have hkx : key ≤ x.2.1 := by omega
  have HKEY := hid hkey
  clear hkey HKM
  have W2 := hid (HW.out.plain ((Kept.refl _ _).alloc (.cells #[.int .i64 (x.1 : Int), .int .i64 key, .int .i64 x.2.2] 46)))
  have y0 := heap_alloc_new w1 (.cells #[.int .i64 (x.1 : Int), .int .i64 key, .int .i64 x.2.2] 46)
  have y1 := blk_cell (j := 0) (v := .int .i64 (x.1 : Int)) y0 rfl
  have y2 := blk_cell (j := 1) (v := .int .i64 key) y0 rfl
  have y3 := blk_cell (j := 2) (v := .int .i64 x.2.2) y0 rfl
  have hg : w1.heap.size < (w1.alloc (.cells #[.int .i64 (x.1 : Int), .int .i64 key, .int .i64 x.2.2] 46)).heap.size := by simp
  have gF := hid (show ¬ F w1.heap.size from fun z => by have := HW.out.is.lt _ z; omega)
  have gp : w1.heap.size ≠ pw := by omega
  clear HW c0 c4 x1 x2 x3 hb hlt y0
  generalize w1.alloc (.cells #[.int .i64 (x.1 : Int), .int .i64 key, .int .i64 x.2.2] 46) = w2 at *
  generalize w1.heap.size = g at *
  obtain ⟨eB, eS, eM, _⟩ := FI.out key hkx
  have LT := hid (fun w' (k1 : Kept (fun _ => False) w2 w') => lowerT (x.1 : Int) key ((Ex.start W2.out.is).plain k1) (by have := HQ.out; omega))
  rw [eB] at LT
  have ES := hid eS
  have EM := hid eM
  clear eB eS eM FI
  have FA := hid (fun w' w'' (e : Ex F w' w'' pa pm (lowS s (x.1 : Int) key)) => fallC HI.out.swap (by have := HL0.out; have := HL1.out; omega) (by have := HL0.out; have := HL1.out; omega) HL.out key hkx e (by have := HQ.out; omega))
  generalize lowS s (x.1 : Int) key = sl at *
  generalize hxi : x.1 = i at *
  have HXI := hid hxi
  clear hxi
  obtain ⟨c0, c1, c2, c3, c4, c5, c6, c7, cf⟩ := W2.out.cells
  have hlt := W2.out.lt
  have hout2 := hid W2.out.out
  clear c1 c2 c3 c4 c5 c6 c7 cf hout
  go_wp2_with fail
  go_region_held3 (fun w' => w'.cell? ⟨pw, 0, none⟩ = some (.pointer (some ⟨pa, 0, none⟩)) ∧ w'.cell? ⟨g, 0, none⟩ = some (.int .i64 (i : Int)) ∧ w'.cell? ⟨g, 1, none⟩ = some (.int .i64 key)) (first | exact ⟨c0, y1, y2⟩ | (simp [go_sem]; exact ⟨c0, y1, y2⟩))
    (first
      | (go_at_call 38; refine (LT.out _ (by first | exact Kept.refl _ _ | exact (Kept.refl _ _).drew | exact (Kept.refl _ _).drewN _)).mono ?_; rintro e w3 ⟨rfl, e3⟩; replace c0 := (e3.kept.cell (p := ⟨pw, 0, none⟩) hlt hout2.out).trans c0; replace y1 := (e3.kept.cell (p := ⟨g, 0, none⟩) hg gF.out).trans y1; replace y2 := (e3.kept.cell (p := ⟨g, 1, none⟩) hg gF.out).trans y2; replace y3 := (e3.kept.cell (p := ⟨g, 2, none⟩) hg gF.out).trans y3; have E3 := hid e3; clear e3))
  have W3 := hid (W2.out.ex E3.out)
  have hg3 := Nat.lt_of_lt_of_le hg E3.out.kept.size
  clear c0 hlt hg W2 E3 LT
  obtain ⟨c0, c1, c2, c3, c4, c5, c6, c7, cf⟩ := W3.out.cells
  have hlt := W3.out.lt
  clear c3 c4 c5 c6 c7 cf
  have M := hid (meterA pa pm sl F w3 W3.out.is)
  have T := hid (stepsA pa pm sl F w3 W3.out.is)
  rw [show sl.steps = q + 2 from ES.out] at T
  obtain ⟨q2, hq2⟩ : ∃ q2, q2 = q + 2 := ⟨_, rfl⟩
  rw [← hq2] at T
  have HQ2 := hid hq2
  have hq3 : q2 ≤ 90000002 := by omega
  clear hq2
  go_wp2_with fail
  refine M.out.mono ?_
  rintro e w4 ⟨rfl, rfl⟩
  go_wp2_with fail
  refine T.out.mono ?_
  rintro e w4 ⟨rfl, rfl⟩
  clear M T
  go_wp2_with fail
  go_region_held3 (fun w' => w'.cell? ⟨pw, 0, none⟩ = some (.pointer (some ⟨pa, 0, none⟩)) ∧ w'.cell? ⟨pw, 2, none⟩ = some (.int .i64 (Tr.root u)) ∧ w'.cell? ⟨g, 0, none⟩ = some (.int .i64 (i : Int))) (first | exact ⟨c0, c2, y1⟩ | (simp [go_sem]; exact ⟨c0, c2, y1⟩))
    (first
      | (go_at_call 39; refine (FA.out w4 _ ((Ex.start W3.out.is).plain (by first | exact Kept.refl _ _ | exact (Kept.refl _ _).drew | exact (Kept.refl _ _).drewN _))).mono ?_; rintro e w5 ⟨t', s3, rfl, e5, i3, m3, ge3, le3⟩; replace c0 := (e5.kept.cell (p := ⟨pw, 0, none⟩) hlt hout2.out).trans c0; replace c2 := (e5.kept.cell (p := ⟨pw, 2, none⟩) hlt hout2.out).trans c2; replace y1 := (e5.kept.cell (p := ⟨g, 0, none⟩) hg3 gF.out).trans y1; replace y2 := (e5.kept.cell (p := ⟨g, 1, none⟩) hg3 gF.out).trans y2; replace y3 := (e5.kept.cell (p := ⟨g, 2, none⟩) hg3 gF.out).trans y3; have E5 := hid e5; have I3 := hid i3; have M3 := hid m3; have GE3 := hid ge3; have LE3 := hid le3; clear e5 i3 m3 ge3 le3))
  have W5 := hid (W3.out.ex E5.out)
  have hg5 := Nat.lt_of_lt_of_le hg3 E5.out.kept.size
  clear c0 c1 c2 W3 FA E5 hlt hg3
  obtain ⟨c0, c1, c2, c3, c4, c5, c6, c7, cf⟩ := W5.out.cells
  have hlt5 := W5.out.lt
  have le4 := hid (show s3.steps ≤ q2 + (100 + 100 * bts L1.length) by have h1 := LE3.out; have h2 := HQ2.out; rw [HQ.out] at h1; omega)
  have C := hid (costWk L1.length q2 (by have := HLEN.out; omega) W5.out (by have h1 := GE3.out; have h2 := HQ2.out; rw [HQ.out] at h1; omega) (by have h1 := le4.out; rw [← HLEN.out] at h1; omega))
  rw [show decide (s3.steps ≤ q2 + (500 + 400 * bts L1.length)) = true by simp; have := le4.out; omega, ← HLEN.out] at C
  rw [← HLEN.out] at c4
  clear c0 c1 c2 c5 c6 c7 cf
  go_wp2_with fail
  refine C.out.mono ?_
  rintro e w6 ⟨rfl, k6, sp', mo', h6⟩
  have H6 := hid h6
  replace y1 := (k6.cell (p := ⟨g, 0, none⟩) hg5 gp).trans y1
  replace y2 := (k6.cell (p := ⟨g, 1, none⟩) hg5 gp).trans y2
  replace y3 := (k6.cell (p := ⟨g, 2, none⟩) hg5 gp).trans y3
  have hg6 := Nat.lt_of_lt_of_le hg5 k6.size
  clear h6 C c3 c4 W5 hlt5 k6
  obtain ⟨c0, c1, c2, c3, c4, c5, c6, c7, cf⟩ := H6.out.cells
  have hlt6 := H6.out.lt
  have fR := cf 2
  clear c5 c6 c7 cf c0
  generalize hrt : Tr.root t' = m at *
  have HRT := hid hrt
  clear hrt
  have kk := kept_pw w6 pw 2 (.int .i64 m)
  have W7 := hid (H6.out.wrote (r1' := m) kk (by have b1 := blk_set (j := 2) (u := .int .i64 m) H6.out.blk; simp at b1; exact b1) (H6.out.l0.kept kk fun _ q => q.2) (H6.out.l1.kept kk fun _ q => q.2))
  replace y1 := (kk.cell (p := ⟨g, 0, none⟩) hg6 gp).trans y1
  replace y2 := (kk.cell (p := ⟨g, 1, none⟩) hg6 gp).trans y2
  replace y3 := (kk.cell (p := ⟨g, 2, none⟩) hg6 gp).trans y3
  have hg7 := Nat.lt_of_lt_of_le hg6 kk.size
  clear kk c3 c4
  go_upto_region 13 with fail
  clear c1 c2 fR hlt6 H6 hg6
  generalize w6.setCell ⟨pw, 2, none⟩ (.int .i64 m) = wC at *
  obtain ⟨_, _, _, dd3, dd4, _, _, _, dcf⟩ := W7.out.cells
  have fVC := dcf 4
  have hlC := W7.out.lt
  have dV := dd4
  clear dd3 dd4 dcf
  refine wp_region_noPanic ?_
  refine tl_begin (S := (fun w' => w'.cell? ⟨pw, 4, none⟩ = some (.slice (some ⟨b, 0, none⟩) len cap) ∧ w'.cell? ⟨g, 0, none⟩ = some (.int .i64 (i : Int)) ∧ w'.cell? ⟨g, 1, none⟩ = some (.int .i64 key) ∧ w'.cell? ⟨g, 2, none⟩ = some (.int .i64 x.2.2))) 16 (by kernel_rfl) ?_
  have hHeld : wC.drew.cell? ⟨pw, 4, none⟩ = some (.slice (some ⟨b, 0, none⟩) len cap) ∧ wC.drew.cell? ⟨g, 0, none⟩ = some (.int .i64 (i : Int)) ∧ wC.drew.cell? ⟨g, 1, none⟩ = some (.int .i64 key) ∧ wC.drew.cell? ⟨g, 2, none⟩ = some (.int .i64 x.2.2) := ⟨dV, y1, y2, y3⟩
  have WD := hid (W7.out.drewN 1)
  have hlW : pw < wC.drew.heap.size := hlC
  have hgW : g < wC.drew.heap.size := hg7
  have HH := hid hHeld
  have fV : wC.drew.frozen? ⟨pw, 4, none⟩ = false := fVC
  replace WD : Hid (Wx w0 wC.drew F pw pa pm v0 (.slice (some ⟨b, 0, none⟩) len cap) s3 t.root m L0 L1 nx sp' mo') := WD.out
  clear W7 dV fVC hlC y1 y2 y3 hg7
  generalize wC.drew = W at *
  have LW : Hid (Lz (fun b => ¬ F b ∧ b ≠ pw) W (.slice (some ⟨b, 0, none⟩) len cap) (L1.take k ++ x :: L1.drop (k + 1))) := hid (by have := WD.out.l1; rw [← show L1 = L1.take k ++ x :: L1.drop (k + 1) from HL.out]; exact this)
  have WO := hid (fun w1 (k1 : Kept (fun _ => False) W w1) => withoutN _ (L1.take k) (L1.drop (k + 1)) x w1 (LW.out.kept k1 fun _ _ e => e) (by have e : L1.take k ++ x :: L1.drop (k + 1) = L1 := HL.out.symm; rw [e]; have := HLEN.out; omega))
  obtain ⟨len2, hl2⟩ : ∃ len2, len2 = k + (L1.drop (k + 1)).length := ⟨_, rfl⟩
  rw [HK1.out, ← hl2] at WO
  have HL2 := hid hl2
  have hl2k : len2 ≤ 1000 := by rw [hl2]; have := HLEN.out; simp; omega
  clear hl2 LW
  refine tl_take 0 94 (.pointer (some ⟨pw, 0, none⟩)) rfl rfl (by kernel_rfl) (by kernel_rfl) (by kernel_rfl) (fun _ _ _ h => h) (by decide) (by kernel_rfl) (by kernel_rfl) (by rfl) (fun wS hS => by (try dsimp only at hS); go_split_ands; go_simp) (by assumption) ?_
  simp only [Act.put, List.setIfInBounds_toArray, List.set_cons_zero, List.set_cons_succ]
  refine tl_take 1 95 (.int .i64 1) rfl rfl (by kernel_rfl) (by kernel_rfl) (by kernel_rfl) (fun _ _ _ h => h) (by decide) (by kernel_rfl) (by kernel_rfl) (by rfl) (fun wS hS => by (try dsimp only at hS); go_split_ands; go_simp) (by assumption) ?_
  simp only [Act.put, List.setIfInBounds_toArray, List.set_cons_zero, List.set_cons_succ]
  refine tl_take 2 96 (.pointer (some ⟨pw, 0, none⟩)) rfl rfl (by kernel_rfl) (by kernel_rfl) (by kernel_rfl) (fun _ _ _ h => h) (by decide) (by kernel_rfl) (by kernel_rfl) (by rfl) (fun wS hS => by (try dsimp only at hS); go_split_ands; go_simp) (by assumption) ?_
  simp only [Act.put, List.setIfInBounds_toArray, List.set_cons_zero, List.set_cons_succ]
  refine tl_take 3 97 (.int .i64 1) rfl rfl (by kernel_rfl) (by kernel_rfl) (by kernel_rfl) (fun _ _ _ h => h) (by decide) (by kernel_rfl) (by kernel_rfl) (by rfl) (fun wS hS => by (try dsimp only at hS); go_split_ands; go_simp) (by assumption) ?_
  simp only [Act.put, List.setIfInBounds_toArray, List.set_cons_zero, List.set_cons_succ]
  refine tl_take 4 98 (.pointer (some ⟨pw, 0, none⟩)) rfl rfl (by kernel_rfl) (by kernel_rfl) (by kernel_rfl) (fun _ _ _ h => h) (by decide) (by kernel_rfl) (by kernel_rfl) (by rfl) (fun wS hS => by (try dsimp only at hS); go_split_ands; go_simp) (by assumption) ?_
  simp only [Act.put, List.setIfInBounds_toArray, List.set_cons_zero, List.set_cons_succ]
  refine tl_take 5 99 (.pointer (some ⟨pw, 3, none⟩)) rfl rfl (by kernel_rfl) (by kernel_rfl) (by kernel_rfl) (fun _ _ _ h => h) (by decide) (by kernel_rfl) (by kernel_rfl) (by rfl) (fun wS hS => by (try dsimp only at hS); go_split_ands; go_simp) (by assumption) ?_
  simp only [Act.put, List.setIfInBounds_toArray, List.set_cons_zero, List.set_cons_succ]
  refine tl_take 6 100 (.pointer (some ⟨pw, 4, none⟩)) rfl rfl (by kernel_rfl) (by kernel_rfl) (by kernel_rfl) (fun _ _ _ h => h) (by decide) (by kernel_rfl) (by kernel_rfl) (by rfl) (fun wS hS => by (try dsimp only at hS); go_split_ands; go_simp) (by assumption) ?_
  simp only [Act.put, List.setIfInBounds_toArray, List.set_cons_zero, List.set_cons_succ]
  refine tl_take 7 101 (.slice (some ⟨b, 0, none⟩) len cap) rfl rfl (by kernel_rfl) (by kernel_rfl) (by kernel_rfl) (fun _ _ _ h => h) (by decide) (by kernel_rfl) (by kernel_rfl) (by rfl) (fun wS hS => by (try dsimp only at hS); go_split_ands; go_simp) (by assumption) ?_
  simp only [Act.put, List.setIfInBounds_toArray, List.set_cons_zero, List.set_cons_succ]
  refine tl_take 8 102 (.int .i64 (k : Int)) rfl rfl (by kernel_rfl) (by kernel_rfl) (by kernel_rfl) (fun _ _ _ h => h) (by decide) (by kernel_rfl) (by kernel_rfl) (by rfl) (fun wS hS => by (try dsimp only at hS); go_split_ands; go_simp) (by assumption) ?_
  simp only [Act.put, List.setIfInBounds_toArray, List.set_cons_zero, List.set_cons_succ]
  refine tl_take 10 104 (.agg #[.int .i64 (i : Int), .int .i64 key, .int .i64 x.2.2]) rfl rfl (by kernel_rfl) (by kernel_rfl) (by kernel_rfl) (fun _ _ _ h => h) (by decide) (by kernel_rfl) (by kernel_rfl) (by rfl) (fun wS hS => by (try dsimp only at hS); go_split_ands; go_simp) (by assumption) ?_
  simp only [Act.put, List.setIfInBounds_toArray, List.set_cons_zero, List.set_cons_succ]
  refine tl_any 13 107 (.pointer (some ⟨pw, 0, none⟩)) rfl rfl (by kernel_rfl) (by kernel_rfl) (by kernel_rfl) (fun _ _ _ h => h) (by decide) (by rfl) (fun wS => by go_simp) (by assumption) ?_
  simp only [Act.put, List.setIfInBounds_toArray, List.set_cons_zero, List.set_cons_succ]
  refine tl_any 14 108 (.pointer (some ⟨pw, 3, none⟩)) rfl rfl (by kernel_rfl) (by kernel_rfl) (by kernel_rfl) (fun _ _ _ h => h) (by decide) (by rfl) (fun wS => by go_simp) (by assumption) ?_
  simp only [Act.put, List.setIfInBounds_toArray, List.set_cons_zero, List.set_cons_succ]
  clear hHeld
  refine tl_ready (rs := [9, 11]) (by kernel_rfl) (by simp) ?_
  refine AllT.cons rfl (fun K hK => ?_) (AllT.cons rfl (fun K hK => ?_) AllT.nil)
  · go_simp
    refine (WO.out _ (by exact (Kept.refl (fun _ => False) W))).mono ?_
    rintro e w3 ⟨v3, rfl, o3, k3⟩
    have K3 := hid (((Kept.refl (fun _ => False) W)).trans' k3)
    have O3 := hid o3
    obtain ⟨va3, vc3, rfl⟩ := own_form o3
    clear o3 k3
    go_wp2_with fail
    refine hK.out _ _ (fun _ => ⟨(K3.out.cell (p := ⟨pw, 4, none⟩) hlW (fun e => e)).trans HH.out.1, (K3.out.cell (p := ⟨g, 0, none⟩) hgW (fun e => e)).trans HH.out.2.1, (K3.out.cell (p := ⟨g, 1, none⟩) hgW (fun e => e)).trans HH.out.2.2.1, (K3.out.cell (p := ⟨g, 2, none⟩) hgW (fun e => e)).trans HH.out.2.2.2⟩) ?_
    clear hK K
    refine tl_ready (rs := [11]) (by kernel_rfl) (by simp) ?_
    refine AllT.cons rfl (fun K hK => ?_) AllT.nil
    go_simp
    go_wp2_with fail
    refine hK.out _ _ (fun _ => ⟨((K3.out.alloc _).cell (p := ⟨pw, 4, none⟩) hlW (fun e => e)).trans HH.out.1, ((K3.out.alloc _).cell (p := ⟨g, 0, none⟩) hgW (fun e => e)).trans HH.out.2.1, ((K3.out.alloc _).cell (p := ⟨g, 1, none⟩) hgW (fun e => e)).trans HH.out.2.2.1, ((K3.out.alloc _).cell (p := ⟨g, 2, none⟩) hgW (fun e => e)).trans HH.out.2.2.2⟩) ?_
    clear hK K
    refine tl_ready (rs := [12]) (by kernel_rfl) (by simp) ?_
    refine AllT.cons rfl (fun K hK => ?_) AllT.nil
    refine step_append_sz rfl (.tmp 103) (.tmp 105) rfl (W.heap.size) _ (.slice va3 len2 vc3) _ len2 (row h3 (L1.take k ++ L1.drop (k + 1))) [(i, key, x.2.2)] rfl rfl (by exact World.ownsRow.alloc O3.out _) (by exact Sz.one _ _) (by show len2 + 1 ≤ 1000000; omega) (by exact (K3.out.alloc _).size) ?_
    intro v4 w4 o4 g4
    have K4 := hid ((K3.out.alloc _).grown g4 (fun k hk => Or.inr (by have h := (O3.out.lt k hk).1; first | exact h | (simp at h; omega))))
    have O4 := hid o4
    obtain ⟨va4, vc4, rfl⟩ := own_form o4
    clear o4 g4
    generalize hn4 : len2 + [(i, key, x.2.2)].length = n4 at *
    have HN4 := hid hn4
    clear hn4
    go_wp2_with fail
    refine hK.out _ _ (fun _ => ⟨(K4.out.cell (p := ⟨pw, 4, none⟩) hlW (fun e => e)).trans HH.out.1, (K4.out.cell (p := ⟨g, 0, none⟩) hgW (fun e => e)).trans HH.out.2.1, (K4.out.cell (p := ⟨g, 1, none⟩) hgW (fun e => e)).trans HH.out.2.2.1, (K4.out.cell (p := ⟨g, 2, none⟩) hgW (fun e => e)).trans HH.out.2.2.2⟩) ?_
    clear hK K
    have hHeld : w4.cell? ⟨pw, 4, none⟩ = some (.slice (some ⟨b, 0, none⟩) len cap) ∧ w4.cell? ⟨g, 0, none⟩ = some (.int .i64 (i : Int)) ∧ w4.cell? ⟨g, 1, none⟩ = some (.int .i64 key) ∧ w4.cell? ⟨g, 2, none⟩ = some (.int .i64 x.2.2) := ⟨(K4.out.cell (p := ⟨pw, 4, none⟩) hlW (fun e => e)).trans HH.out.1, (K4.out.cell (p := ⟨g, 0, none⟩) hgW (fun e => e)).trans HH.out.2.1, (K4.out.cell (p := ⟨g, 1, none⟩) hgW (fun e => e)).trans HH.out.2.2.1, (K4.out.cell (p := ⟨g, 2, none⟩) hgW (fun e => e)).trans HH.out.2.2.2⟩
    refine tl_take 15 109 (.pointer (some ⟨pw, 4, none⟩)) rfl rfl (by kernel_rfl) (by kernel_rfl) (by kernel_rfl) (fun _ _ _ h => h) (by decide) (by kernel_rfl) (by kernel_rfl) (by rfl) (fun wS hS => by (try dsimp only at hS); go_split_ands; go_simp) (by assumption) ?_
    simp only [Act.put, List.setIfInBounds_toArray]
    clear hHeld
    have fV4 : w4.frozen? ⟨pw, 4, none⟩ = false := (World.frozen?_of_block (K4.out.block pw hlW (fun e => e))).trans fV
    have cV4 := (K4.out.cell (p := ⟨pw, 4, none⟩) hlW (fun e => e)).trans HH.out.1
    have hl4 := Nat.lt_of_lt_of_le hlW K4.out.size
    refine tl_ready (rs := [16]) (by kernel_rfl) (by simp) ?_
    refine AllT.cons rfl (fun K hK => ?_) AllT.nil
    go_simp
    refine hK.out _ _ (fun h => Bool.noConfusion (show true = false from h)) ?_
    clear hK K
    refine tl_done (by kernel_rfl) ?_ _
    refine NoPanic.normal ?_
    go_wp2
    go_ret
    have ef : fallL at0 by0 L1 = L1.take k ++ L1.drop (k + 1) ++ [(i, key, x.2.2)] := by rw [fallL_some (x := x) (by rw [← HKK.out]; exact HX.out)]; unfold cutL; rw [← HKK.out, HKEY.out, HXI.out]
    have er : row h3 (L1.take k ++ L1.drop (k + 1) ++ [(i, key, x.2.2)]) = row h3 (L1.take k ++ L1.drop (k + 1)) ++ row h3 [(i, key, x.2.2)] := by rw [row_append]
    have el : (L1.take k ++ L1.drop (k + 1) ++ [(i, key, x.2.2)]).length = n4 := by rw [← HN4.out, List.length_append, List.length_append, HK1.out, HL2.out]
    have W4 := WD.out.plain K4.out
    have LZ : Lz (fun b => ¬ F b ∧ b ≠ pw) w4 (.slice va4 n4 vc4) (L1.take k ++ L1.drop (k + 1) ++ [(i, key, x.2.2)]) := Lz.of_own (base := W.heap.size) (by rw [er, el]; exact O4.out) (fun b hb _ => by have hb2 : W.heap.size ≤ b := (by first | exact hb | (simp at hb; omega)); exact ⟨fun z => by have := WD.out.is.lt b z; omega, by omega⟩)
    have kk1 := kept_pw w4 pw 4 (.slice va4 n4 vc4)
    have W5 := W4.wrote (v1' := .slice va4 n4 vc4) kk1 (by have b1 := blk_set (j := 4) (u := .slice va4 n4 vc4) W4.blk; simp at b1; exact b1) (W4.l0.kept kk1 fun _ q => q.2) (LZ.kept kk1 fun _ q => q.2)
    rw [← HRT.out, ← ef] at W5
    have I4 := I3.out.swap
    rw [← ef] at I4
    exact ⟨rfl, F, pa, pm, _, _, _, _, _, sp', mo', W5, I4, by have h1 := le4.out; rw [← HLEN.out] at h1; have h2 := HQ2.out; have h3 := HK.out; omega, M3.out.trans HM.out⟩
  · go_simp
    go_wp2_with fail
    refine hK.out _ _ (fun _ => ⟨(((Kept.refl (fun _ => False) W).alloc _).cell (p := ⟨pw, 4, none⟩) hlW (fun e => e)).trans HH.out.1, (((Kept.refl (fun _ => False) W).alloc _).cell (p := ⟨g, 0, none⟩) hgW (fun e => e)).trans HH.out.2.1, (((Kept.refl (fun _ => False) W).alloc _).cell (p := ⟨g, 1, none⟩) hgW (fun e => e)).trans HH.out.2.2.1, (((Kept.refl (fun _ => False) W).alloc _).cell (p := ⟨g, 2, none⟩) hgW (fun e => e)).trans HH.out.2.2.2⟩) ?_
    clear hK K
    refine tl_ready (rs := [9]) (by kernel_rfl) (by simp) ?_
    refine AllT.cons rfl (fun K hK => ?_) AllT.nil
    go_simp
    refine (WO.out _ (by exact (Kept.refl (fun _ => False) W).alloc _)).mono ?_
    rintro e w3 ⟨v3, rfl, o3, k3⟩
    have K3 := hid (((Kept.refl (fun _ => False) W).alloc _).trans' k3)
    have KS := hid k3.size
    have XX := hid ((Sz.one W (i, key, x.2.2)).kept (k3.below (by simp) (fun _ e => e.elim)))
    have O3 := hid o3
    obtain ⟨va3, vc3, rfl⟩ := own_form o3
    clear o3 k3
    go_wp2_with fail
    refine hK.out _ _ (fun _ => ⟨(K3.out.cell (p := ⟨pw, 4, none⟩) hlW (fun e => e)).trans HH.out.1, (K3.out.cell (p := ⟨g, 0, none⟩) hgW (fun e => e)).trans HH.out.2.1, (K3.out.cell (p := ⟨g, 1, none⟩) hgW (fun e => e)).trans HH.out.2.2.1, (K3.out.cell (p := ⟨g, 2, none⟩) hgW (fun e => e)).trans HH.out.2.2.2⟩) ?_
    clear hK K
    refine tl_ready (rs := [12]) (by kernel_rfl) (by simp) ?_
    refine AllT.cons rfl (fun K hK => ?_) AllT.nil
    refine step_append_sz rfl (.tmp 103) (.tmp 105) rfl ((W.alloc (.cells #[.int .i64 (i : Int), .int .i64 key, .int .i64 x.2.2] 46)).heap.size) _ (.slice va3 len2 vc3) _ len2 (row h3 (L1.take k ++ L1.drop (k + 1))) [(i, key, x.2.2)] rfl rfl (by exact O3.out) (by exact XX.out) (by show len2 + 1 ≤ 1000000; omega) (by exact KS.out) ?_
    intro v4 w4 o4 g4
    have K4 := hid (K3.out.grown g4 (fun k hk => Or.inr (by have h := (O3.out.lt k hk).1; first | exact h | (simp at h; omega))))
    have O4 := hid o4
    obtain ⟨va4, vc4, rfl⟩ := own_form o4
    clear o4 g4
    generalize hn4 : len2 + [(i, key, x.2.2)].length = n4 at *
    have HN4 := hid hn4
    clear hn4
    go_wp2_with fail
    refine hK.out _ _ (fun _ => ⟨(K4.out.cell (p := ⟨pw, 4, none⟩) hlW (fun e => e)).trans HH.out.1, (K4.out.cell (p := ⟨g, 0, none⟩) hgW (fun e => e)).trans HH.out.2.1, (K4.out.cell (p := ⟨g, 1, none⟩) hgW (fun e => e)).trans HH.out.2.2.1, (K4.out.cell (p := ⟨g, 2, none⟩) hgW (fun e => e)).trans HH.out.2.2.2⟩) ?_
    clear hK K
    have hHeld : w4.cell? ⟨pw, 4, none⟩ = some (.slice (some ⟨b, 0, none⟩) len cap) ∧ w4.cell? ⟨g, 0, none⟩ = some (.int .i64 (i : Int)) ∧ w4.cell? ⟨g, 1, none⟩ = some (.int .i64 key) ∧ w4.cell? ⟨g, 2, none⟩ = some (.int .i64 x.2.2) := ⟨(K4.out.cell (p := ⟨pw, 4, none⟩) hlW (fun e => e)).trans HH.out.1, (K4.out.cell (p := ⟨g, 0, none⟩) hgW (fun e => e)).trans HH.out.2.1, (K4.out.cell (p := ⟨g, 1, none⟩) hgW (fun e => e)).trans HH.out.2.2.1, (K4.out.cell (p := ⟨g, 2, none⟩) hgW (fun e => e)).trans HH.out.2.2.2⟩
    refine tl_take 15 109 (.pointer (some ⟨pw, 4, none⟩)) rfl rfl (by kernel_rfl) (by kernel_rfl) (by kernel_rfl) (fun _ _ _ h => h) (by decide) (by kernel_rfl) (by kernel_rfl) (by rfl) (fun wS hS => by (try dsimp only at hS); go_split_ands; go_simp) (by assumption) ?_
    simp only [Act.put, List.setIfInBounds_toArray]
    clear hHeld
    have fV4 : w4.frozen? ⟨pw, 4, none⟩ = false := (World.frozen?_of_block (K4.out.block pw hlW (fun e => e))).trans fV
    have cV4 := (K4.out.cell (p := ⟨pw, 4, none⟩) hlW (fun e => e)).trans HH.out.1
    have hl4 := Nat.lt_of_lt_of_le hlW K4.out.size
    refine tl_ready (rs := [16]) (by kernel_rfl) (by simp) ?_
    refine AllT.cons rfl (fun K hK => ?_) AllT.nil
    go_simp
    refine hK.out _ _ (fun h => Bool.noConfusion (show true = false from h)) ?_
    clear hK K
    refine tl_done (by kernel_rfl) ?_ _
    refine NoPanic.normal ?_
    go_wp2
    go_ret
    have ef : fallL at0 by0 L1 = L1.take k ++ L1.drop (k + 1) ++ [(i, key, x.2.2)] := by rw [fallL_some (x := x) (by rw [← HKK.out]; exact HX.out)]; unfold cutL; rw [← HKK.out, HKEY.out, HXI.out]
    have er : row h3 (L1.take k ++ L1.drop (k + 1) ++ [(i, key, x.2.2)]) = row h3 (L1.take k ++ L1.drop (k + 1)) ++ row h3 [(i, key, x.2.2)] := by rw [row_append]
    have el : (L1.take k ++ L1.drop (k + 1) ++ [(i, key, x.2.2)]).length = n4 := by rw [← HN4.out, List.length_append, List.length_append, HK1.out, HL2.out]
    have W4 := WD.out.plain K4.out
    have LZ : Lz (fun b => ¬ F b ∧ b ≠ pw) w4 (.slice va4 n4 vc4) (L1.take k ++ L1.drop (k + 1) ++ [(i, key, x.2.2)]) := Lz.of_own (base := (W.alloc (.cells #[.int .i64 (i : Int), .int .i64 key, .int .i64 x.2.2] 46)).heap.size) (by rw [er, el]; exact O4.out) (fun b hb _ => by have hb2 : W.heap.size ≤ b := (by first | exact hb | (simp at hb; omega)); exact ⟨fun z => by have := WD.out.is.lt b z; omega, by omega⟩)
    have kk1 := kept_pw w4 pw 4 (.slice va4 n4 vc4)
    have W5 := W4.wrote (v1' := .slice va4 n4 vc4) kk1 (by have b1 := blk_set (j := 4) (u := .slice va4 n4 vc4) W4.blk; simp at b1; exact b1) (W4.l0.kept kk1 fun _ q => q.2) (LZ.kept kk1 fun _ q => q.2)
    rw [← HRT.out, ← ef] at W5
    have I4 := I3.out.swap
    rw [← ef] at I4
    exact ⟨rfl, F, pa, pm, _, _, _, _, _, sp', mo', W5, I4, by have h1 := le4.out; rw [← HLEN.out] at h1; have h2 := HQ2.out; have h3 := HK.out; omega, M3.out.trans HM.out⟩
end Go.Proofs.YtnkpopeahmjodaaGreat

/- The laws' cut. -/
namespace Go.Proofs.YtnkpopeahmjodaaGreat
open Go.ChangeShapes Go.WideShapes Go.ChangeAt Go.RowKit
open Tr

set_option maxHeartbeats 2000000 in
theorem cut0_none {w0 : Fm} {w : World} {pw N K : Nat} {L0 L1 : List (Nat × Int × Int)} {nx : Int} (at0 : Int) (h : Sit w0 w pw N K L0 L1 nx) (h0 : L0 = []) :
    Calls Tryz.prog 19 #[.pointer (some ⟨pw, 0, none⟩), .int .i64 0, .int .i64 at0] w fun e w' => e = .returned (.bool true) ∧ Sit w0 w' pw N K L0 L1 nx := by
  obtain ⟨F, pa, pm, v0, v1, s, t, u, sp, mo, hw, hi, hk, hm⟩ := h
  have HS := hid (show Sit w0 w pw N K L0 L1 nx from ⟨F, pa, pm, v0, v1, s, t, u, sp, mo, hw, hi, hk, hm⟩)
  obtain ⟨c0, c1, c2, c3, c4, c5, c6, c7, cf⟩ := hw.cells
  have hlt := hw.lt
  obtain ⟨va, vc, hv⟩ := hw.l0.form
  rw [h0] at hv
  subst hv
  clear hw hi hk hm h0 c0 c1 c2 c5 c6 c7 cf
  go_enter Tryz.func19, Tryz.ntmps19
  go_wp2
  go_ret
  exact ⟨rfl, HS.out⟩

set_option maxHeartbeats 4000000 in
set_option maxRecDepth 100000 in
theorem cut0_some {w0 : Fm} {w : World} {pw N K : Nat} {L0 L1 : List (Nat × Int × Int)} {nx : Int} (at0 : Int) (hat : I64 at0) (h : Sit w0 w pw N K L0 L1 nx) (h0 : L0 ≠ []) (hl : L0.length ≤ 700) (hl' : L1.length ≤ 700) (hK : K ≤ 90000000) :
    Calls Tryz.prog 19 #[.pointer (some ⟨pw, 0, none⟩), .int .i64 0, .int .i64 at0] w fun e w' => e = .returned (.bool true) ∧ Sit w0 w' pw N (K + 2000) (cutL at0 L0) L1 nx := by
  obtain ⟨F, pa, pm, v0, v1, s, t, u, sp, mo, hw, hi, hk, hm⟩ := h
  have hpos : 0 < L0.length := List.length_pos_iff.2 h0
  obtain ⟨hkl, hke⟩ := winN_lt at0 hpos
  obtain ⟨k, hkk⟩ : ∃ k, k = winN at0 L0.length := ⟨_, rfl⟩
  rw [← hkk] at hkl hke
  have hx : L0[k]? = some L0[k] := List.getElem?_eq_getElem hkl
  obtain ⟨x, hxx⟩ : ∃ x, x = L0[k] := ⟨_, rfl⟩
  rw [← hxx] at hx
  clear hxx
  obtain ⟨hL, hk1⟩ := split_at hx
  have hb10 := bts_le 10 L0.length (by omega)
  have HW := hid hw
  have HK := hid hk
  have HM := hid hm
  have HI := hid hi
  have HX := hid hx
  have HL := hid hL
  have HK1 := hid hk1
  have HKK := hid hkk
  obtain ⟨c0, c1, c2, c3, c4, c5, c6, c7, cf⟩ := hw.cells
  have hlt := hw.lt
  have hout := hid hw.out
  obtain ⟨b, cap, hv, _, hb, hP, x1, x2, x3⟩ := hw.l0.at hx
  subst hv
  have hbF := hid hP.1
  have hbp : b ≠ pw := hP.2
  have hpb : pw ≠ b := fun e => hbp e.symm
  obtain ⟨len, hlen⟩ : ∃ len, len = L0.length := ⟨_, rfl⟩
  have HLEN := hid hlen
  have HL0 := hid hl
  have HL1 := hid hl'
  have hlen1 : ((len : Int) == 0) = false := by simp; omega
  have hwd : IntKind.i64.wrap ((len : Int) - 1) = (len : Int) - 1 := IntWalk.i64_in _ (by omega)
  have WI := hid (fun w1 => within_eq at0 hat ((len : Int) - 1) (by omega) (by omega) w1)
  rw [hlen, hke, ← hlen] at WI
  rw [← hlen] at hkl c3 hb10
  have hlen7 : len ≤ 700 := by omega
  have hkl' : (k : Int) < (len : Int) := by omega
  have P := hid (fun w1 (k1 : Kept (fun _ => False) w w1) => cutC hi (by omega) (by omega) hL ((Aft.start hw.is).plain k1) (by omega))
  have M := hid (fun w1 (k1 : Kept (fun _ => False) w w1) => meterA pa pm s F w1 (hw.plain k1).is)
  have T := hid (fun w1 (k1 : Kept (fun _ => False) w w1) => stepsA pa pm s F w1 (hw.plain k1).is)
  clear hw hi hk hm h0 hx hL hk1 hkk hlen hke hP hl hl' x2 x3 hpos c5 c6 c7 cf hat
  generalize hq : s.steps = q at *
  have HQ := hid hq
  have hq1 : q ≤ 90000000 := by have := HK.out; omega
  clear hq
  go_enter Tryz.func19, Tryz.ntmps19
  go_wp2_with fail
  refine (WI.out _).mono ?_
  rintro e w1 ⟨rfl, rfl⟩
  clear WI
  go_wp2_with fail
  refine (M.out _ (Kept.refl _ _)).mono ?_
  rintro e w1 ⟨rfl, rfl⟩
  go_wp2_with fail
  refine (T.out _ (Kept.refl _ _)).mono ?_
  rintro e w2 ⟨rfl, rfl⟩
  clear M T x1 hb
  generalize hxi : x.1 = i at *
  have HXI := hid hxi
  clear hxi
  go_wp2_with fail
  go_region_held3 (fun w' => w'.cell? ⟨pw, 0, none⟩ = some (.pointer (some ⟨pa, 0, none⟩)) ∧ w'.cell? ⟨pw, 1, none⟩ = some (.int .i64 (Tr.root t))) (first | exact ⟨c0, c1⟩ | (simp [go_sem]; exact ⟨c0, c1⟩))
    (first
      | (go_at_call 40; refine (P.out _ (by first | exact Kept.refl _ _ | exact (Kept.refl _ _).drew | exact (Kept.refl _ _).drewN _)).mono ?_; rintro e w3 ⟨t', s3, rfl, e3, i3, m3, ge3, le3⟩; replace c0 := (e3.kept.cell (p := ⟨pw, 0, none⟩) hlt hout.out).trans c0; replace c1 := (e3.kept.cell (p := ⟨pw, 1, none⟩) hlt hout.out).trans c1; have E3 := hid e3; have I3 := hid i3; have M3 := hid m3; have GE3 := hid ge3; have LE3 := hid le3; clear e3 i3 m3 ge3 le3))
  have W3 := hid (HW.out.aft E3.out)
  clear c0 c1 c2 c3 c4 hout HW P
  generalize Grow F w2 w3 = G at W3
  obtain ⟨c0, c1, c2, c3, c4, c5, c6, c7, cf⟩ := W3.out.cells
  have hlt3 := W3.out.lt
  have C := hid (costW L0.length q (by have := HLEN.out; omega) W3.out GE3.out (by have h1 := LE3.out; rw [← HLEN.out] at h1; omega))
  rw [show decide (s3.steps ≤ q + (500 + 400 * bts L0.length)) = true by simp; have := LE3.out; omega, ← HLEN.out] at C
  rw [← HLEN.out] at c3
  clear c0 c1 c2 c5 c6 c7 cf
  go_wp2_with fail
  refine C.out.mono ?_
  rintro e w4 ⟨rfl, sp', mo', h4⟩
  have H4 := hid h4
  clear h4 C c3 c4 W3 hlt3
  obtain ⟨c0, c1, c2, c3, c4, c5, c6, c7, cf⟩ := H4.out.cells
  have hlt4 := H4.out.lt
  have fR := cf 1
  have fV := cf 3
  clear c5 c6 c7 cf
  generalize hrt : Tr.root t' = m at *
  have HRT := hid hrt
  clear hrt
  have kk := kept_pw w4 pw 1 (.int .i64 m)
  have W6 := hid (H4.out.wrote (r0' := m) kk (by have b1 := blk_set (j := 1) (u := .int .i64 m) H4.out.blk; simp at b1; exact b1) (H4.out.l0.kept kk fun _ q => q.2) (H4.out.l1.kept kk fun _ q => q.2))
  clear kk
  go_upto_region 10 with fail
  clear c0 c1 c2 c3 c4 fR fV
  obtain ⟨w7, hw7⟩ : ∃ w7, w7 = w4.setCell ⟨pw, 1, none⟩ (.int .i64 m) := ⟨_, rfl⟩
  rw [← hw7] at W6 ⊢
  clear hw7
  have W7 := W6
  obtain ⟨c0, c1, c2, c3, c4, c5, c6, c7, cf⟩ := W7.out.cells
  have hlt7 := W7.out.lt
  have fV := cf 3
  have L7 : Lz (fun b => ¬ G b ∧ b ≠ pw) w7 (.slice (some ⟨b, 0, none⟩) len cap) (L0.take k ++ x :: L0.drop (k + 1)) := by
    have := W7.out.l0
    have e : L0.take k ++ x :: L0.drop (k + 1) = L0 := HL.out.symm
    rw [e]; exact this
  have WO := hid (fun w1 (k1 : Kept (fun _ => False) w7 w1) => withoutN _ (L0.take k) (L0.drop (k + 1)) x w1 (L7.kept k1 fun _ _ e => e) (by have e : L0.take k ++ x :: L0.drop (k + 1) = L0 := HL.out.symm; rw [e]; have := HLEN.out; omega))
  obtain ⟨len2, hl2⟩ : ∃ len2, len2 = k + (L0.drop (k + 1)).length := ⟨_, rfl⟩
  rw [HK1.out, ← hl2] at WO
  have HL2 := hid hl2
  clear hl2
  clear c1 c2 c5 c6 c7 cf L7
  go_wp2_with fail
  go_region_with (go_at_call 36; refine (WO.out _ (by first | exact Kept.refl _ _ | exact (Kept.refl _ _).drew | exact (Kept.refl _ _).drewN _)).mono ?_; rintro e w8 ⟨v', rfl, o8, k8⟩; obtain ⟨va8, vc8, rfl⟩ := own_form o8; have fV8 := (World.frozen?_of_block (k8.block pw hlt7 (fun e => e))).trans fV; have hlt8 := Nat.lt_of_lt_of_le hlt7 k8.size; replace c3 := (k8.cell (p := ⟨pw, 3, none⟩) hlt7 (fun e => e)).trans c3; replace c0 := (k8.cell (p := ⟨pw, 0, none⟩) hlt7 (fun e => e)).trans c0; have O8 := hid o8; have K8 := hid k8; clear o8 k8)
  all_goals
    have ep : cutL at0 L0 = L0.take k ++ L0.drop (k + 1) := by unfold cutL; rw [← HKK.out]
    have el : (L0.take k ++ L0.drop (k + 1)).length = len2 := by rw [List.length_append, HK1.out, HL2.out]
    have W8 := hid (W7.out.plain (((Kept.refl _ _).drewN 1).trans' K8.out))
    have kk := kept_pw w8 pw 3 (.slice va8 len2 vc8)
    have LZ : Lz (fun b => ¬ G b ∧ b ≠ pw) w8 (.slice va8 len2 vc8) (L0.take k ++ L0.drop (k + 1)) := Lz.of_own (base := w7.heap.size) (by rw [el]; exact O8.out) (fun b hb _ => ⟨fun z => by have := W7.out.is.lt b z; omega, by omega⟩)
    have W9 := hid (W8.out.wrote (v0' := .slice va8 len2 vc8) kk (by have b1 := blk_set (j := 3) (u := .slice va8 len2 vc8) W8.out.blk; simp at b1; exact b1) (LZ.kept kk fun _ q => q.2) (W8.out.l1.kept kk fun _ q => q.2))
    have b12 := hid (show s3.steps ≤ q + (200 + 100 * 10) by have h1 := LE3.out; rw [← HLEN.out] at h1; omega)
    have ND := hid (fun n => nodeT (i : Int) (Ex.start (W9.out.drewN n).is) (by have := b12.out; omega))
    rw [show cellS s3 (i : Int) 9 = -1 from cell_neg (j := 9) I3.out.live (by decide) I3.out.free] at ND
    have EP := hid ep
    clear ep el kk LZ
    go_wp2_with fail
    refine (ND.out 0).mono ?_
    rintro e w10 ⟨rfl, e10⟩
    have W10 := hid (W9.out.ex e10)
    clear ND e10
    have GV := hid (giveT (i : Int) (Aft.start W10.out.is) (by show s3.steps + 1 ≤ _; have := b12.out; omega))
    rw [show liveS (tk s3 1) (i : Int) = true from I3.out.live] at GV
    obtain ⟨c0, _⟩ := W10.out.cells
    have hlt10 := W10.out.lt
    go_wp2_with fail
    refine GV.out.mono ?_
    rintro e w11 ⟨rfl, e11⟩
    have W11 := hid (W10.out.aft e11)
    clear GV e11
    go_wp2
    go_ret
    have Z1 := W11.out
    rw [← EP.out, ← HRT.out] at Z1
    have Z2 := (give_inv (I3.out.tk 1))
    rw [← EP.out] at Z2
    exact ⟨rfl, _, pa, pm, _, _, _, _, _, sp', mo', Z1, Z2, by rw [give_steps]; show s3.steps + 1 + 1 ≤ _; have := b12.out; have := HK.out; have := HQ.out; omega, by rw [give_most]; exact M3.out.trans HM.out⟩

end Go.Proofs.YtnkpopeahmjodaaGreat

/- The laws' cut. -/
namespace Go.Proofs.YtnkpopeahmjodaaGreat
open Go.ChangeShapes Go.WideShapes Go.ChangeAt Go.RowKit
open Tr

set_option maxHeartbeats 2000000 in
theorem cut1_none {w0 : Fm} {w : World} {pw N K : Nat} {L0 L1 : List (Nat × Int × Int)} {nx : Int} (at0 : Int) (h : Sit w0 w pw N K L0 L1 nx) (h0 : L1 = []) :
    Calls Tryz.prog 19 #[.pointer (some ⟨pw, 0, none⟩), .int .i64 1, .int .i64 at0] w fun e w' => e = .returned (.bool true) ∧ Sit w0 w' pw N K L0 L1 nx := by
  obtain ⟨F, pa, pm, v0, v1, s, t, u, sp, mo, hw, hi, hk, hm⟩ := h
  have HS := hid (show Sit w0 w pw N K L0 L1 nx from ⟨F, pa, pm, v0, v1, s, t, u, sp, mo, hw, hi, hk, hm⟩)
  obtain ⟨c0, c1, c2, c3, c4, c5, c6, c7, cf⟩ := hw.cells
  have hlt := hw.lt
  obtain ⟨va, vc, hv⟩ := hw.l1.form
  rw [h0] at hv
  subst hv
  clear hw hi hk hm h0 c0 c1 c2 c5 c6 c7 cf
  go_enter Tryz.func19, Tryz.ntmps19
  go_wp2
  go_ret
  exact ⟨rfl, HS.out⟩

set_option maxHeartbeats 4000000 in
set_option maxRecDepth 100000 in
theorem cut1_some {w0 : Fm} {w : World} {pw N K : Nat} {L0 L1 : List (Nat × Int × Int)} {nx : Int} (at0 : Int) (hat : I64 at0) (h : Sit w0 w pw N K L0 L1 nx) (h0 : L1 ≠ []) (hl : L0.length ≤ 700) (hl' : L1.length ≤ 700) (hK : K ≤ 90000000) :
    Calls Tryz.prog 19 #[.pointer (some ⟨pw, 0, none⟩), .int .i64 1, .int .i64 at0] w fun e w' => e = .returned (.bool true) ∧ Sit w0 w' pw N (K + 2000) L0 (cutL at0 L1) nx := by
  obtain ⟨F, pa, pm, v0, v1, s, t, u, sp, mo, hw, hi, hk, hm⟩ := h
  have hpos : 0 < L1.length := List.length_pos_iff.2 h0
  obtain ⟨hkl, hke⟩ := winN_lt at0 hpos
  obtain ⟨k, hkk⟩ : ∃ k, k = winN at0 L1.length := ⟨_, rfl⟩
  rw [← hkk] at hkl hke
  have hx : L1[k]? = some L1[k] := List.getElem?_eq_getElem hkl
  obtain ⟨x, hxx⟩ : ∃ x, x = L1[k] := ⟨_, rfl⟩
  rw [← hxx] at hx
  clear hxx
  obtain ⟨hL, hk1⟩ := split_at hx
  have hb10 := bts_le 10 L1.length (by omega)
  have HW := hid hw
  have HK := hid hk
  have HM := hid hm
  have HI := hid hi
  have HX := hid hx
  have HL := hid hL
  have HK1 := hid hk1
  have HKK := hid hkk
  obtain ⟨c0, c1, c2, c3, c4, c5, c6, c7, cf⟩ := hw.cells
  have hlt := hw.lt
  have hout := hid hw.out
  obtain ⟨b, cap, hv, _, hb, hP, x1, x2, x3⟩ := hw.l1.at hx
  subst hv
  have hbF := hid hP.1
  have hbp : b ≠ pw := hP.2
  have hpb : pw ≠ b := fun e => hbp e.symm
  obtain ⟨len, hlen⟩ : ∃ len, len = L1.length := ⟨_, rfl⟩
  have HLEN := hid hlen
  have HL0 := hid hl
  have HL1 := hid hl'
  have hlen1 : ((len : Int) == 0) = false := by simp; omega
  have hwd : IntKind.i64.wrap ((len : Int) - 1) = (len : Int) - 1 := IntWalk.i64_in _ (by omega)
  have WI := hid (fun w1 => within_eq at0 hat ((len : Int) - 1) (by omega) (by omega) w1)
  rw [hlen, hke, ← hlen] at WI
  rw [← hlen] at hkl c4 hb10
  have hlen7 : len ≤ 700 := by omega
  have hkl' : (k : Int) < (len : Int) := by omega
  have P := hid (fun w1 (k1 : Kept (fun _ => False) w w1) => cutC hi.swap (by omega) (by omega) hL ((Aft.start hw.is).plain k1) (by omega))
  have M := hid (fun w1 (k1 : Kept (fun _ => False) w w1) => meterA pa pm s F w1 (hw.plain k1).is)
  have T := hid (fun w1 (k1 : Kept (fun _ => False) w w1) => stepsA pa pm s F w1 (hw.plain k1).is)
  clear hw hi hk hm h0 hx hL hk1 hkk hlen hke hP hl hl' x2 x3 hpos c5 c6 c7 cf hat
  generalize hq : s.steps = q at *
  have HQ := hid hq
  have hq1 : q ≤ 90000000 := by have := HK.out; omega
  clear hq
  go_enter Tryz.func19, Tryz.ntmps19
  go_wp2_with fail
  refine (WI.out _).mono ?_
  rintro e w1 ⟨rfl, rfl⟩
  clear WI
  go_wp2_with fail
  refine (M.out _ (Kept.refl _ _)).mono ?_
  rintro e w1 ⟨rfl, rfl⟩
  go_wp2_with fail
  refine (T.out _ (Kept.refl _ _)).mono ?_
  rintro e w2 ⟨rfl, rfl⟩
  clear M T x1 hb
  generalize hxi : x.1 = i at *
  have HXI := hid hxi
  clear hxi
  go_wp2_with fail
  go_region_held3 (fun w' => w'.cell? ⟨pw, 0, none⟩ = some (.pointer (some ⟨pa, 0, none⟩)) ∧ w'.cell? ⟨pw, 2, none⟩ = some (.int .i64 (Tr.root u))) (first | exact ⟨c0, c2⟩ | (simp [go_sem]; exact ⟨c0, c2⟩))
    (first
      | (go_at_call 40; refine (P.out _ (by first | exact Kept.refl _ _ | exact (Kept.refl _ _).drew | exact (Kept.refl _ _).drewN _)).mono ?_; rintro e w3 ⟨t', s3, rfl, e3, i3, m3, ge3, le3⟩; replace c0 := (e3.kept.cell (p := ⟨pw, 0, none⟩) hlt hout.out).trans c0; replace c2 := (e3.kept.cell (p := ⟨pw, 2, none⟩) hlt hout.out).trans c2; have E3 := hid e3; have I3 := hid i3; have M3 := hid m3; have GE3 := hid ge3; have LE3 := hid le3; clear e3 i3 m3 ge3 le3))
  have W3 := hid (HW.out.aft E3.out)
  clear c0 c1 c2 c3 c4 hout HW P
  generalize Grow F w2 w3 = G at W3
  obtain ⟨c0, c1, c2, c3, c4, c5, c6, c7, cf⟩ := W3.out.cells
  have hlt3 := W3.out.lt
  have C := hid (costW L1.length q (by have := HLEN.out; omega) W3.out GE3.out (by have h1 := LE3.out; rw [← HLEN.out] at h1; omega))
  rw [show decide (s3.steps ≤ q + (500 + 400 * bts L1.length)) = true by simp; have := LE3.out; omega, ← HLEN.out] at C
  rw [← HLEN.out] at c4
  clear c0 c1 c2 c5 c6 c7 cf
  go_wp2_with fail
  refine C.out.mono ?_
  rintro e w4 ⟨rfl, sp', mo', h4⟩
  have H4 := hid h4
  clear h4 C c3 c4 W3 hlt3
  obtain ⟨c0, c1, c2, c3, c4, c5, c6, c7, cf⟩ := H4.out.cells
  have hlt4 := H4.out.lt
  have fR := cf 2
  have fV := cf 4
  clear c5 c6 c7 cf
  generalize hrt : Tr.root t' = m at *
  have HRT := hid hrt
  clear hrt
  have kk := kept_pw w4 pw 2 (.int .i64 m)
  have W6 := hid (H4.out.wrote (r1' := m) kk (by have b1 := blk_set (j := 2) (u := .int .i64 m) H4.out.blk; simp at b1; exact b1) (H4.out.l0.kept kk fun _ q => q.2) (H4.out.l1.kept kk fun _ q => q.2))
  clear kk
  go_upto_region 10 with fail
  clear c0 c1 c2 c3 c4 fR fV
  obtain ⟨w7, hw7⟩ : ∃ w7, w7 = w4.setCell ⟨pw, 2, none⟩ (.int .i64 m) := ⟨_, rfl⟩
  rw [← hw7] at W6 ⊢
  clear hw7
  have W7 := W6
  obtain ⟨c0, c1, c2, c3, c4, c5, c6, c7, cf⟩ := W7.out.cells
  have hlt7 := W7.out.lt
  have fV := cf 4
  have L7 : Lz (fun b => ¬ G b ∧ b ≠ pw) w7 (.slice (some ⟨b, 0, none⟩) len cap) (L1.take k ++ x :: L1.drop (k + 1)) := by
    have := W7.out.l1
    have e : L1.take k ++ x :: L1.drop (k + 1) = L1 := HL.out.symm
    rw [e]; exact this
  have WO := hid (fun w1 (k1 : Kept (fun _ => False) w7 w1) => withoutN _ (L1.take k) (L1.drop (k + 1)) x w1 (L7.kept k1 fun _ _ e => e) (by have e : L1.take k ++ x :: L1.drop (k + 1) = L1 := HL.out.symm; rw [e]; have := HLEN.out; omega))
  obtain ⟨len2, hl2⟩ : ∃ len2, len2 = k + (L1.drop (k + 1)).length := ⟨_, rfl⟩
  rw [HK1.out, ← hl2] at WO
  have HL2 := hid hl2
  clear hl2
  clear c1 c2 c5 c6 c7 cf L7
  go_wp2_with fail
  go_region_with (go_at_call 36; refine (WO.out _ (by first | exact Kept.refl _ _ | exact (Kept.refl _ _).drew | exact (Kept.refl _ _).drewN _)).mono ?_; rintro e w8 ⟨v', rfl, o8, k8⟩; obtain ⟨va8, vc8, rfl⟩ := own_form o8; have fV8 := (World.frozen?_of_block (k8.block pw hlt7 (fun e => e))).trans fV; have hlt8 := Nat.lt_of_lt_of_le hlt7 k8.size; replace c4 := (k8.cell (p := ⟨pw, 4, none⟩) hlt7 (fun e => e)).trans c4; replace c0 := (k8.cell (p := ⟨pw, 0, none⟩) hlt7 (fun e => e)).trans c0; have O8 := hid o8; have K8 := hid k8; clear o8 k8)
  all_goals
    have ep : cutL at0 L1 = L1.take k ++ L1.drop (k + 1) := by unfold cutL; rw [← HKK.out]
    have el : (L1.take k ++ L1.drop (k + 1)).length = len2 := by rw [List.length_append, HK1.out, HL2.out]
    have W8 := hid (W7.out.plain (((Kept.refl _ _).drewN 1).trans' K8.out))
    have kk := kept_pw w8 pw 4 (.slice va8 len2 vc8)
    have LZ : Lz (fun b => ¬ G b ∧ b ≠ pw) w8 (.slice va8 len2 vc8) (L1.take k ++ L1.drop (k + 1)) := Lz.of_own (base := w7.heap.size) (by rw [el]; exact O8.out) (fun b hb _ => ⟨fun z => by have := W7.out.is.lt b z; omega, by omega⟩)
    have W9 := hid (W8.out.wrote (v1' := .slice va8 len2 vc8) kk (by have b1 := blk_set (j := 4) (u := .slice va8 len2 vc8) W8.out.blk; simp at b1; exact b1) (W8.out.l0.kept kk fun _ q => q.2) (LZ.kept kk fun _ q => q.2))
    have b12 := hid (show s3.steps ≤ q + (200 + 100 * 10) by have h1 := LE3.out; rw [← HLEN.out] at h1; omega)
    have ND := hid (fun n => nodeT (i : Int) (Ex.start (W9.out.drewN n).is) (by have := b12.out; omega))
    rw [show cellS s3 (i : Int) 9 = -1 from cell_neg (j := 9) I3.out.live (by decide) I3.out.free] at ND
    have EP := hid ep
    clear ep el kk LZ
    go_wp2_with fail
    refine (ND.out 0).mono ?_
    rintro e w10 ⟨rfl, e10⟩
    have W10 := hid (W9.out.ex e10)
    clear ND e10
    have GV := hid (giveT (i : Int) (Aft.start W10.out.is) (by show s3.steps + 1 ≤ _; have := b12.out; omega))
    rw [show liveS (tk s3 1) (i : Int) = true from I3.out.live] at GV
    obtain ⟨c0, _⟩ := W10.out.cells
    have hlt10 := W10.out.lt
    go_wp2_with fail
    refine GV.out.mono ?_
    rintro e w11 ⟨rfl, e11⟩
    have W11 := hid (W10.out.aft e11)
    clear GV e11
    go_wp2
    go_ret
    have Z1 := W11.out
    rw [← EP.out, ← HRT.out] at Z1
    have Z2 := (give_inv (I3.out.tk 1)).swap
    rw [← EP.out] at Z2
    exact ⟨rfl, _, pa, pm, _, _, _, _, _, sp', mo', Z1, Z2, by rw [give_steps]; show s3.steps + 1 + 1 ≤ _; have := b12.out; have := HK.out; have := HQ.out; omega, by rw [give_most]; exact M3.out.trans HM.out⟩

end Go.Proofs.YtnkpopeahmjodaaGreat

/- The laws' meld into the first heap. -/
namespace Go.Proofs.YtnkpopeahmjodaaGreat
open Go.ChangeShapes Go.WideShapes Go.ChangeAt Go.RowKit
open Tr

set_option maxHeartbeats 8000000 in
set_option maxRecDepth 100000 in
theorem meld0 {w0 : Fm} {w : World} {pw N K : Nat} {L0 L1 : List (Nat × Int × Int)} {nx : Int} (h : Sit w0 w pw N K L0 L1 nx) (hl : L0.length + L1.length ≤ 700) (hK : K ≤ 90000000) :
    Calls Tryz.prog 20 #[.pointer (some ⟨pw, 0, none⟩), .int .i64 0] w fun e w' => e = .returned (.bool true) ∧ Sit w0 w' pw N (K + 1500) (L0 ++ L1) [] nx := by
  obtain ⟨F, pa, pm, v0, v1, s, t, u, sp, mo, hw, hi, hk, hm⟩ := h
  have PI := hid (fun q => meld_inv hi (by omega) q)
  obtain ⟨r1, r2, _⟩ := PI.out 0
  have hs0 := hi.a.len
  have hs1 := hi.b.len
  have RK := hid (Nat.le_trans (rank_bts hi.a.gd.lft) (bts_mono (show t.size ≤ L0.length + L1.length by omega)))
  have RK2 := hid (Nat.le_trans (rank_bts hi.b.gd.lft) (bts_mono (show u.size ≤ L0.length + L1.length by omega)))
  have b20 := bts_le 20 (L0.length + L1.length) (by omega)
  have rcl : ∀ t : Tr, Hp (LS s) (hasS s) t → Cl t.root := fun t ht => by
    cases t with
    | lf => exact Cl.none
    | nd a b c d => exact ls_cl hi.ok ht.1.1
  have MD := hid (fun w1 (k1 : Kept (fun _ => False) w w1) => MeldT (t.rank + u.rank + 1) t.root u.root (rcl t hi.a.gd.hp) (rcl u hi.b.gd.hp) (fun k => by rw [r1, r2]; exact (PI.out k).2.2.1) (by rw [hm]; have := hi.ok.top; omega) ((Ex.start hw.is).plain k1) (by have := RK.out; have := RK2.out; omega))
  rw [r1, r2] at MD
  have HW := hid hw
  have HKK := hid hk
  have HM := hid hm
  have M := hid (meterA pa pm s F w hw.is)
  have T := hid (stepsA pa pm s F w hw.is)
  obtain ⟨va, vc, e0⟩ := hw.l0.form
  obtain ⟨vb, vd, e1⟩ := hw.l1.form
  subst e0 e1
  obtain ⟨c0, c1, c2, c3, c4, c5, c6, c7, cf⟩ := hw.cells
  have hlt := hw.lt
  have hout := hid hw.out
  obtain ⟨n0, hn0⟩ : ∃ n, n = L0.length := ⟨_, rfl⟩
  obtain ⟨n1, hn1⟩ : ∃ n, n = L1.length := ⟨_, rfl⟩
  have HN0 := hid hn0
  have HN1 := hid hn1
  rw [← hn0, ← hn1] at hl b20 RK RK2
  obtain ⟨mm, hmm⟩ : ∃ mm : Nat, (n0 : Int) + (n1 : Int) = (mm : Int) := ⟨n0 + n1, by omega⟩
  have HMM := hid (show mm = n0 + n1 by omega)
  have hw1 : IntKind.i64.wrap (mm : Int) = (mm : Int) := IntWalk.i64_in _ (by omega)
  obtain ⟨q, hq⟩ : ∃ q, q = s.steps := ⟨_, rfl⟩
  rw [← hq] at T
  have HQ := hid hq
  have hq1 : q ≤ 90000000 := by omega
  clear hw hi hk hm hs0 hs1 r1 r2 rcl hn0 hn1 hq c3 c4 c5 c6 c7 cf
  have h10 : (1 : Int) - 0 = 1 := by decide
  have h10w : IntKind.i64.wrap 1 = 1 := by decide
  go_enter Tryz.func20, Tryz.ntmps20
  go_wp2_with fail
  refine M.out.mono ?_
  rintro e wA ⟨rfl, rfl⟩
  go_wp2_with fail
  refine T.out.mono ?_
  rintro e wB ⟨rfl, rfl⟩
  clear M T
  go_wp2_with fail
  go_region_held3 (fun w' => w'.cell? ⟨pw, 0, none⟩ = some (.pointer (some ⟨pa, 0, none⟩)) ∧ w'.cell? ⟨pw, 1, none⟩ = some (.int .i64 t.root) ∧ w'.cell? ⟨pw, 2, none⟩ = some (.int .i64 u.root)) (first | exact ⟨c0, c1, c2⟩ | (simp [go_sem]; exact ⟨c0, c1, c2⟩))
    (first
      | (go_at_call 41; refine (MD.out _ (by first | exact Kept.refl _ _ | exact (Kept.refl _ _).drew | exact (Kept.refl _ _).drewN _)).mono ?_; rintro e w3 ⟨k, hk, rfl, e3⟩; replace c0 := (e3.kept.cell (p := ⟨pw, 0, none⟩) hlt hout.out).trans c0; replace c1 := (e3.kept.cell (p := ⟨pw, 1, none⟩) hlt hout.out).trans c1; replace c2 := (e3.kept.cell (p := ⟨pw, 2, none⟩) hlt hout.out).trans c2; have E3 := hid e3; clear e3))
  obtain ⟨_, _, _, t', hrt, hin⟩ := PI.out k
  have ST := hid (show (meldS (t.rank + u.rank + 1) (tk s k) t.root u.root).2.steps ≤ q + 6 + 18 * (t.rank + u.rank + 1) by
    have := meld_steps (t.rank + u.rank + 1) (tk s k) t.root u.root
    have e : (tk s k).steps = s.steps + k := rfl
    rw [e, ← HQ.out] at this
    omega)
  have ST2 := hid (show q ≤ (meldS (t.rank + u.rank + 1) (tk s k) t.root u.root).2.steps by
    have := meld_steps_ge (t.rank + u.rank + 1) (tk s k) t.root u.root
    have e : (tk s k).steps = s.steps + k := rfl
    rw [e, ← HQ.out] at this
    omega)
  have MO := hid (show (meldS (t.rank + u.rank + 1) (tk s k) t.root u.root).2.most = N by rw [meld_most]; exact HM.out)
  have HRT := hid hrt
  have HIN := hid hin
  clear hrt hin PI MD
  generalize meldS (t.rank + u.rank + 1) (tk s k) t.root u.root = ms at *
  obtain ⟨m, s3⟩ := ms
  have W3 := hid (HW.out.ex E3.out)
  clear c0 c1 c2 HW E3
  rw [← HN0.out, ← HN1.out] at W3
  obtain ⟨c0, c1, c2, c3, c4, c5, c6, c7, cf⟩ := W3.out.cells
  have hlt3 := W3.out.lt
  have CO := hid (fun w1 (k1 : Kept (fun _ => False) w3 w1) => costW mm q (by have := HMM.out; omega) (W3.out.plain k1) ST2.out (by show s3.steps ≤ 100000000; have : s3.steps ≤ q + 6 + 18 * (t.rank + u.rank + 1) := ST.out; have := RK.out; have := RK2.out; omega))
  rw [show decide (s3.steps ≤ q + (500 + 400 * bts mm)) = true by rw [HMM.out]; simp; have : s3.steps ≤ q + 6 + 18 * (t.rank + u.rank + 1) := ST.out; have := RK.out; have := RK2.out; omega] at CO
  clear c0 c1 c2 c5 c6 c7 cf
  go_wp2_with fail
  go_region_held3 (fun w' => w'.cell? ⟨pw, 3, none⟩ = some (.slice va n0 vc) ∧ w'.cell? ⟨pw, 4, none⟩ = some (.slice vb n1 vd)) (first | exact ⟨c3, c4⟩ | (simp [go_sem]; exact ⟨c3, c4⟩))
    (first
      | (go_at_call 28; refine (CO.out _ (by first | exact Kept.refl _ _ | exact (Kept.refl _ _).drew | exact (Kept.refl _ _).drewN _)).mono ?_; rintro e w4 ⟨rfl, sp2, mo2, h4⟩; replace c3 := h4.cells.2.2.2.1; replace c4 := h4.cells.2.2.2.2.1; have W4 := hid h4; clear h4))
  clear CO W3 hlt3 hmm hw1
  obtain ⟨_, c1, c2, _, _, _, _, _, cf⟩ := W4.out.cells
  have hlt4 := W4.out.lt
  have f1 := cf 1
  have f2 := cf 2
  clear cf c3 c4
  go_wp2_with fail
  go_region
  have kk := ((kept_pw w4 pw 1 (.int .i64 m)).trans' (kept_pw _ pw 2 (.int .i64 (-1)))).drew
  have HC : Hid (Wx w0 ((w4.setCell ⟨pw, 1, none⟩ (.int .i64 m)).setCell ⟨pw, 2, none⟩ (.int .i64 (-1))).drew F pw pa pm (.slice va n0 vc) (.slice vb n1 vd) s3 m (-1) L0 L1 nx sp2 mo2) := W4.out.wrote (r0' := m) (r1' := -1) kk (by have b1 := blk_set (j := 2) (u := .int .i64 (-1)) (blk_set (j := 1) (u := .int .i64 m) W4.out.blk); simp at b1; exact b1) (W4.out.l0.kept kk fun _ q => q.2) (W4.out.l1.kept kk fun _ q => q.2)
  clear kk W4 c1 c2 f1 f2 hlt4
  generalize ((w4.setCell ⟨pw, 1, none⟩ (.int .i64 m)).setCell ⟨pw, 2, none⟩ (.int .i64 (-1))).drew = wC at *
  obtain ⟨_, _, _, d3, d4, _, _, _, _⟩ := HC.out.cells
  have hlC := HC.out.lt
  go_wp2_with fail
  refine wp_region_noPanic ?_
  refine tl_begin (S := (fun w' => w'.cell? ⟨pw, 3, none⟩ = some (.slice va n0 vc) ∧ w'.cell? ⟨pw, 4, none⟩ = some (.slice vb n1 vd))) 24 (by kernel_rfl) ?_
  have hHeld : wC.drew.cell? ⟨pw, 3, none⟩ = some (.slice va n0 vc) ∧ wC.drew.cell? ⟨pw, 4, none⟩ = some (.slice vb n1 vd) := ⟨d3, d4⟩
  have WD : Hid (Wx w0 wC.drew F pw pa pm (.slice va n0 vc) (.slice vb n1 vd) s3 m (-1) L0 L1 nx sp2 mo2) := HC.out.drewN 1
  have hlW : pw < wC.drew.heap.size := hlC
  have S1 := hid (show Sz wC.drew.heap.size wC.drew (.slice va n0 vc) L0 from WD.out.l0.src)
  have S2 := hid (show Sz wC.drew.heap.size wC.drew (.slice vb n1 vd) L1 from WD.out.l1.src)
  have HH := hid hHeld
  clear HC d3 d4 hlC
  generalize wC.drew = W at *
  refine tl_any 0 60 (.pointer (some ⟨pw, 0, none⟩)) rfl rfl (by kernel_rfl) (by kernel_rfl) (by kernel_rfl) (fun _ _ _ h => h) (by decide) (by rfl) (fun wS => by go_simp) (by assumption) ?_
  simp only [Act.put, List.setIfInBounds_toArray, List.set_cons_zero, List.set_cons_succ]
  refine tl_any 1 61 (.int .i64 0) rfl rfl (by kernel_rfl) (by kernel_rfl) (by kernel_rfl) (fun _ _ _ h => h) (by decide) (by rfl) (fun wS => by go_simp) (by assumption) ?_
  simp only [Act.put, List.setIfInBounds_toArray, List.set_cons_zero, List.set_cons_succ]
  refine tl_any 2 62 (.pointer (some ⟨pw, 0, none⟩)) rfl rfl (by kernel_rfl) (by kernel_rfl) (by kernel_rfl) (fun _ _ _ h => h) (by decide) (by rfl) (fun wS => by go_simp) (by assumption) ?_
  simp only [Act.put, List.setIfInBounds_toArray, List.set_cons_zero, List.set_cons_succ]
  refine tl_any 3 63 (.int .i64 0) rfl rfl (by kernel_rfl) (by kernel_rfl) (by kernel_rfl) (fun _ _ _ h => h) (by decide) (by rfl) (fun wS => by go_simp) (by assumption) ?_
  simp only [Act.put, List.setIfInBounds_toArray, List.set_cons_zero, List.set_cons_succ]
  refine tl_any 4 64 (.int .i64 1) rfl rfl (by kernel_rfl) (by kernel_rfl) (by kernel_rfl) (fun _ _ _ h => h) (by decide) (by rfl) (fun wS => by (first | (go_simp; done) | (go_simp; rfl) | (go_simp; decide) | rfl)) (by assumption) ?_
  simp only [Act.put, List.setIfInBounds_toArray, List.set_cons_zero, List.set_cons_succ]
  refine tl_any 6 66 (.pointer (some ⟨pw, 0, none⟩)) rfl rfl (by kernel_rfl) (by kernel_rfl) (by kernel_rfl) (fun _ _ _ h => h) (by decide) (by rfl) (fun wS => by go_simp) (by assumption) ?_
  simp only [Act.put, List.setIfInBounds_toArray, List.set_cons_zero, List.set_cons_succ]
  refine tl_any 7 67 (.int .i64 0) rfl rfl (by kernel_rfl) (by kernel_rfl) (by kernel_rfl) (fun _ _ _ h => h) (by decide) (by rfl) (fun wS => by go_simp) (by assumption) ?_
  simp only [Act.put, List.setIfInBounds_toArray, List.set_cons_zero, List.set_cons_succ]
  refine tl_any 8 68 (.pointer (some ⟨pw, 0, none⟩)) rfl rfl (by kernel_rfl) (by kernel_rfl) (by kernel_rfl) (fun _ _ _ h => h) (by decide) (by rfl) (fun wS => by go_simp) (by assumption) ?_
  simp only [Act.put, List.setIfInBounds_toArray, List.set_cons_zero, List.set_cons_succ]
  refine tl_any 9 69 (.pointer (some ⟨pw, 3, none⟩)) rfl rfl (by kernel_rfl) (by kernel_rfl) (by kernel_rfl) (fun _ _ _ h => h) (by decide) (by rfl) (fun wS => by go_simp) (by assumption) ?_
  simp only [Act.put, List.setIfInBounds_toArray, List.set_cons_zero, List.set_cons_succ]
  refine tl_any 10 70 (.pointer (some ⟨pw, 3, none⟩)) rfl rfl (by kernel_rfl) (by kernel_rfl) (by kernel_rfl) (fun _ _ _ h => h) (by decide) (by rfl) (fun wS => by (first | (go_simp; done) | (go_simp; rfl) | (go_simp; decide) | rfl)) (by assumption) ?_
  simp only [Act.put, List.setIfInBounds_toArray, List.set_cons_zero, List.set_cons_succ]
  refine tl_take 11 71 (.slice va n0 vc) rfl rfl (by kernel_rfl) (by kernel_rfl) (by kernel_rfl) (fun _ _ _ h => h) (by decide) (by kernel_rfl) (by kernel_rfl) (by rfl) (fun wS hS => by (try dsimp only at hS); go_split_ands; go_simp) (by assumption) ?_
  simp only [Act.put, List.setIfInBounds_toArray, List.set_cons_zero, List.set_cons_succ]
  refine tl_any 13 73 (.pointer (some ⟨pw, 0, none⟩)) rfl rfl (by kernel_rfl) (by kernel_rfl) (by kernel_rfl) (fun _ _ _ h => h) (by decide) (by rfl) (fun wS => by go_simp) (by assumption) ?_
  simp only [Act.put, List.setIfInBounds_toArray, List.set_cons_zero, List.set_cons_succ]
  refine tl_any 14 74 (.int .i64 0) rfl rfl (by kernel_rfl) (by kernel_rfl) (by kernel_rfl) (fun _ _ _ h => h) (by decide) (by rfl) (fun wS => by go_simp) (by assumption) ?_
  simp only [Act.put, List.setIfInBounds_toArray, List.set_cons_zero, List.set_cons_succ]
  refine tl_any 15 75 (.int .i64 1) rfl rfl (by kernel_rfl) (by kernel_rfl) (by kernel_rfl) (fun _ _ _ h => h) (by decide) (by rfl) (fun wS => by (first | (go_simp; done) | (go_simp; rfl) | (go_simp; decide) | rfl)) (by assumption) ?_
  simp only [Act.put, List.setIfInBounds_toArray, List.set_cons_zero, List.set_cons_succ]
  refine tl_any 16 76 (.pointer (some ⟨pw, 0, none⟩)) rfl rfl (by kernel_rfl) (by kernel_rfl) (by kernel_rfl) (fun _ _ _ h => h) (by decide) (by rfl) (fun wS => by go_simp) (by assumption) ?_
  simp only [Act.put, List.setIfInBounds_toArray, List.set_cons_zero, List.set_cons_succ]
  refine tl_any 17 77 (.pointer (some ⟨pw, 3, none⟩)) rfl rfl (by kernel_rfl) (by kernel_rfl) (by kernel_rfl) (fun _ _ _ h => h) (by decide) (by rfl) (fun wS => by go_simp) (by assumption) ?_
  simp only [Act.put, List.setIfInBounds_toArray, List.set_cons_zero, List.set_cons_succ]
  refine tl_any 18 78 (.pointer (some ⟨pw, 4, none⟩)) rfl rfl (by kernel_rfl) (by kernel_rfl) (by kernel_rfl) (fun _ _ _ h => h) (by decide) (by rfl) (fun wS => by (first | (go_simp; done) | (go_simp; rfl) | (go_simp; decide) | rfl)) (by assumption) ?_
  simp only [Act.put, List.setIfInBounds_toArray, List.set_cons_zero, List.set_cons_succ]
  refine tl_take 19 79 (.slice vb n1 vd) rfl rfl (by kernel_rfl) (by kernel_rfl) (by kernel_rfl) (fun _ _ _ h => h) (by decide) (by kernel_rfl) (by kernel_rfl) (by rfl) (fun wS hS => by (try dsimp only at hS); go_split_ands; go_simp) (by assumption) ?_
  simp only [Act.put, List.setIfInBounds_toArray, List.set_cons_zero, List.set_cons_succ]
  refine tl_any 21 81 (.pointer (some ⟨pw, 0, none⟩)) rfl rfl (by kernel_rfl) (by kernel_rfl) (by kernel_rfl) (fun _ _ _ h => h) (by decide) (by rfl) (fun wS => by go_simp) (by assumption) ?_
  simp only [Act.put, List.setIfInBounds_toArray, List.set_cons_zero, List.set_cons_succ]
  refine tl_any 22 82 (.pointer (some ⟨pw, 3, none⟩)) rfl rfl (by kernel_rfl) (by kernel_rfl) (by kernel_rfl) (fun _ _ _ h => h) (by decide) (by rfl) (fun wS => by go_simp) (by assumption) ?_
  simp only [Act.put, List.setIfInBounds_toArray, List.set_cons_zero, List.set_cons_succ]
  refine tl_any 25 84 (.pointer (some ⟨pw, 0, none⟩)) rfl rfl (by kernel_rfl) (by kernel_rfl) (by kernel_rfl) (fun _ _ _ h => h) (by decide) (by rfl) (fun wS => by go_simp) (by assumption) ?_
  simp only [Act.put, List.setIfInBounds_toArray, List.set_cons_zero, List.set_cons_succ]
  refine tl_any 26 85 (.pointer (some ⟨pw, 3, none⟩)) rfl rfl (by kernel_rfl) (by kernel_rfl) (by kernel_rfl) (fun _ _ _ h => h) (by decide) (by rfl) (fun wS => by go_simp) (by assumption) ?_
  simp only [Act.put, List.setIfInBounds_toArray, List.set_cons_zero, List.set_cons_succ]
  clear hHeld
  refine tl_ready (rs := [5]) (by kernel_rfl) (by simp) ?_
  refine AllT.cons rfl (fun K hK => ?_) AllT.nil
  go_simp
  go_wp2_with fail
  refine hK.out _ _ (fun _ => ⟨(((Kept.refl (fun _ => False) W).alloc _).cell (p := ⟨pw, 3, none⟩) hlW (fun e => e)).trans HH.out.1, (((Kept.refl (fun _ => False) W).alloc _).cell (p := ⟨pw, 4, none⟩) hlW (fun e => e)).trans HH.out.2⟩) ?_
  clear hK K
  refine tl_ready (rs := [12]) (by kernel_rfl) (by simp) ?_
  refine AllT.cons rfl (fun K hK => ?_) AllT.nil
  refine step_append_sz rfl (.tmp 65) (.tmp 71) rfl W.heap.size W.heap.size _ _ 0 [] L0 rfl rfl (by exact lit3 W (Nat.le_refl _)) (by exact S1.out.kept ((Kept.refl (fun _ => False) W).alloc _).plain0) (by have := HN0.out; omega) (by simp <;> omega) ?_
  intro v3 w3 o3 g3
  have K3 := hid (((Kept.refl (fun _ => False) W).alloc _).grown g3 (fun k hk => Or.inr (by cases hk; simp <;> omega)))
  have O3 := hid o3
  clear o3 g3
  go_wp2_with fail
  refine hK.out _ _ (fun _ => ⟨(K3.out.cell (p := ⟨pw, 3, none⟩) hlW (fun e => e)).trans HH.out.1, (K3.out.cell (p := ⟨pw, 4, none⟩) hlW (fun e => e)).trans HH.out.2⟩) ?_
  clear hK K
  refine tl_ready (rs := [20]) (by kernel_rfl) (by simp) ?_
  refine AllT.cons rfl (fun K hK => ?_) AllT.nil
  refine step_append_sz rfl (.tmp 72) (.tmp 79) rfl W.heap.size W.heap.size v3 _ (0 + L0.length) ([] ++ row h3 L0) L1 rfl rfl (by exact O3.out) (by exact S2.out.kept K3.out.plain0) (by have := HN0.out; have := HN1.out; omega) (by exact K3.out.size) ?_
  intro v4 w4 o4 g4
  have K4 := hid (K3.out.grown g4 (fun k hk => Or.inr (O3.out.lt k hk).1))
  have O4 := hid o4
  obtain ⟨va4, vc4, rfl⟩ := own_form o4
  clear o4 g4
  generalize hn4 : 0 + L0.length + L1.length = n4 at *
  have HN4 := hid hn4
  clear hn4
  go_wp2_with fail
  refine hK.out _ _ (fun _ => ⟨(K4.out.cell (p := ⟨pw, 3, none⟩) hlW (fun e => e)).trans HH.out.1, (K4.out.cell (p := ⟨pw, 4, none⟩) hlW (fun e => e)).trans HH.out.2⟩) ?_
  clear hK K
  have hHeld : w4.cell? ⟨pw, 3, none⟩ = some (.slice va n0 vc) ∧ w4.cell? ⟨pw, 4, none⟩ = some (.slice vb n1 vd) := ⟨(K4.out.cell (p := ⟨pw, 3, none⟩) hlW (fun e => e)).trans HH.out.1, (K4.out.cell (p := ⟨pw, 4, none⟩) hlW (fun e => e)).trans HH.out.2⟩
  refine tl_any 23 83 (.pointer (some ⟨pw, 3, none⟩)) rfl rfl (by kernel_rfl) (by kernel_rfl) (by kernel_rfl) (fun _ _ _ h => h) (by decide) (by rfl) (fun wS => by (first | (go_simp; done) | (go_simp; rfl) | (go_simp; decide) | rfl)) (by assumption) ?_
  simp only [Act.put, List.setIfInBounds_toArray]
  obtain ⟨c34, c44⟩ := hHeld
  have W4 := hid (WD.out.plain K4.out)
  have hl4 := W4.out.lt
  have f34 := W4.out.cells.2.2.2.2.2.2.2.2 3
  have f44 := W4.out.cells.2.2.2.2.2.2.2.2 4
  refine tl_ready (rs := [24]) (by kernel_rfl) (by simp) ?_
  refine AllT.cons rfl (fun K hK => ?_) AllT.nil
  go_simp
  refine hK.out _ _ (fun h => Bool.noConfusion (show true = false from h)) ?_
  clear hK K
  refine tl_ready (rs := [27]) (by kernel_rfl) (by simp) ?_
  refine AllT.cons rfl (fun K hK => ?_) AllT.nil
  go_simp
  refine hK.out _ _ (fun h => Bool.noConfusion (show true = false from h)) ?_
  clear hK K
  refine tl_ready (rs := [28]) (by kernel_rfl) (by simp) ?_
  refine AllT.cons rfl (fun K hK => ?_) AllT.nil
  go_simp
  refine hK.out _ _ (fun h => Bool.noConfusion (show true = false from h)) ?_
  clear hK K
  refine tl_done (by kernel_rfl) ?_ _
  refine NoPanic.normal ?_
  go_wp2
  go_ret
  have er : row h3 (L0 ++ L1) = [] ++ row h3 L0 ++ row h3 L1 := by rw [row_append]; simp
  have el : (L0 ++ L1).length = n4 := by rw [← HN4.out]; simp
  have LZ : Lz (fun b => ¬ F b ∧ b ≠ pw) w4 (.slice va4 n4 vc4) (L0 ++ L1) := Lz.of_own (base := W.heap.size) (by rw [er, el]; exact O4.out) (fun b hb _ => ⟨fun z => by have := WD.out.is.lt b z; omega, by omega⟩)
  have kk1 := (kept_pw w4 pw 3 (.slice va4 n4 vc4)).trans' (kept_pw _ pw 4 (.slice none 0 0))
  have W6 := W4.out.wrote (v0' := .slice va4 n4 vc4) (v1' := .slice none 0 0) (L1' := []) kk1 (by have b1 := blk_set (j := 4) (u := .slice none 0 0) (blk_set (j := 3) (u := .slice va4 n4 vc4) W4.out.blk); simp at b1; exact b1) (LZ.kept kk1 fun _ q => q.2) (Lz.nil _ _)
  rw [HRT.out] at W6
  exact ⟨rfl, F, pa, pm, _, _, _, t', lf, sp2, mo2, W6, HIN.out, by have : s3.steps ≤ q + 6 + 18 * (t.rank + u.rank + 1) := ST.out; have := RK.out; have := RK2.out; have := HQ.out; have := HKK.out; omega, MO.out⟩
end Go.Proofs.YtnkpopeahmjodaaGreat

/- The laws' meld into the second heap. -/
namespace Go.Proofs.YtnkpopeahmjodaaGreat
open Go.ChangeShapes Go.WideShapes Go.ChangeAt Go.RowKit
open Tr

set_option maxHeartbeats 8000000 in
set_option maxRecDepth 100000 in
theorem meld1 {w0 : Fm} {w : World} {pw N K : Nat} {L0 L1 : List (Nat × Int × Int)} {nx : Int} (h : Sit w0 w pw N K L0 L1 nx) (hl : L1.length + L0.length ≤ 700) (hK : K ≤ 90000000) :
    Calls Tryz.prog 20 #[.pointer (some ⟨pw, 0, none⟩), .int .i64 1] w fun e w' => e = .returned (.bool true) ∧ Sit w0 w' pw N (K + 1500) [] (L1 ++ L0) nx := by
  obtain ⟨F, pa, pm, v0, v1, s, t, u, sp, mo, hw, hi, hk, hm⟩ := h
  have PI := hid (fun q => meld_inv hi.swap (by omega) q)
  obtain ⟨r1, r2, _⟩ := PI.out 0
  have hs0 := hi.b.len
  have hs1 := hi.a.len
  have RK := hid (Nat.le_trans (rank_bts hi.b.gd.lft) (bts_mono (show u.size ≤ L1.length + L0.length by omega)))
  have RK2 := hid (Nat.le_trans (rank_bts hi.a.gd.lft) (bts_mono (show t.size ≤ L1.length + L0.length by omega)))
  have b20 := bts_le 20 (L1.length + L0.length) (by omega)
  have rcl : ∀ t : Tr, Hp (LS s) (hasS s) t → Cl t.root := fun t ht => by
    cases t with
    | lf => exact Cl.none
    | nd a b c d => exact ls_cl hi.ok ht.1.1
  have MD := hid (fun w1 (k1 : Kept (fun _ => False) w w1) => MeldT (u.rank + t.rank + 1) u.root t.root (rcl u hi.b.gd.hp) (rcl t hi.a.gd.hp) (fun k => by rw [r1, r2]; exact (PI.out k).2.2.1) (by rw [hm]; have := hi.ok.top; omega) ((Ex.start hw.is).plain k1) (by have := RK.out; have := RK2.out; omega))
  rw [r1, r2] at MD
  have HW := hid hw
  have HKK := hid hk
  have HM := hid hm
  have M := hid (meterA pa pm s F w hw.is)
  have T := hid (stepsA pa pm s F w hw.is)
  obtain ⟨va, vc, e0⟩ := hw.l1.form
  obtain ⟨vb, vd, e1⟩ := hw.l0.form
  subst e0 e1
  obtain ⟨c0, c1, c2, c3, c4, c5, c6, c7, cf⟩ := hw.cells
  have hlt := hw.lt
  have hout := hid hw.out
  obtain ⟨n0, hn0⟩ : ∃ n, n = L1.length := ⟨_, rfl⟩
  obtain ⟨n1, hn1⟩ : ∃ n, n = L0.length := ⟨_, rfl⟩
  have HN0 := hid hn0
  have HN1 := hid hn1
  rw [← hn0, ← hn1] at hl b20 RK RK2
  obtain ⟨mm, hmm⟩ : ∃ mm : Nat, (n1 : Int) + (n0 : Int) = (mm : Int) := ⟨n0 + n1, by omega⟩
  have HMM := hid (show mm = n0 + n1 by omega)
  have hw1 : IntKind.i64.wrap (mm : Int) = (mm : Int) := IntWalk.i64_in _ (by omega)
  obtain ⟨q, hq⟩ : ∃ q, q = s.steps := ⟨_, rfl⟩
  rw [← hq] at T
  have HQ := hid hq
  have hq1 : q ≤ 90000000 := by omega
  clear hw hi hk hm hs0 hs1 r1 r2 rcl hn0 hn1 hq c4 c3 c5 c6 c7 cf
  have h10 : (1 : Int) - 1 = 0 := by decide
  have h10w : IntKind.i64.wrap 0 = 0 := by decide
  go_enter Tryz.func20, Tryz.ntmps20
  go_wp2_with fail
  refine M.out.mono ?_
  rintro e wA ⟨rfl, rfl⟩
  go_wp2_with fail
  refine T.out.mono ?_
  rintro e wB ⟨rfl, rfl⟩
  clear M T
  go_wp2_with fail
  go_region_held3 (fun w' => w'.cell? ⟨pw, 0, none⟩ = some (.pointer (some ⟨pa, 0, none⟩)) ∧ w'.cell? ⟨pw, 2, none⟩ = some (.int .i64 u.root) ∧ w'.cell? ⟨pw, 1, none⟩ = some (.int .i64 t.root)) (first | exact ⟨c0, c2, c1⟩ | (simp [go_sem]; exact ⟨c0, c2, c1⟩))
    (first
      | (go_at_call 41; refine (MD.out _ (by first | exact Kept.refl _ _ | exact (Kept.refl _ _).drew | exact (Kept.refl _ _).drewN _)).mono ?_; rintro e w3 ⟨k, hk, rfl, e3⟩; replace c0 := (e3.kept.cell (p := ⟨pw, 0, none⟩) hlt hout.out).trans c0; replace c2 := (e3.kept.cell (p := ⟨pw, 2, none⟩) hlt hout.out).trans c2; replace c1 := (e3.kept.cell (p := ⟨pw, 1, none⟩) hlt hout.out).trans c1; have E3 := hid e3; clear e3))
  obtain ⟨_, _, _, t', hrt, hin⟩ := PI.out k
  have ST := hid (show (meldS (u.rank + t.rank + 1) (tk s k) u.root t.root).2.steps ≤ q + 6 + 18 * (u.rank + t.rank + 1) by
    have := meld_steps (u.rank + t.rank + 1) (tk s k) u.root t.root
    have e : (tk s k).steps = s.steps + k := rfl
    rw [e, ← HQ.out] at this
    omega)
  have ST2 := hid (show q ≤ (meldS (u.rank + t.rank + 1) (tk s k) u.root t.root).2.steps by
    have := meld_steps_ge (u.rank + t.rank + 1) (tk s k) u.root t.root
    have e : (tk s k).steps = s.steps + k := rfl
    rw [e, ← HQ.out] at this
    omega)
  have MO := hid (show (meldS (u.rank + t.rank + 1) (tk s k) u.root t.root).2.most = N by rw [meld_most]; exact HM.out)
  have HRT := hid hrt
  have HIN := hid hin
  clear hrt hin PI MD
  generalize meldS (u.rank + t.rank + 1) (tk s k) u.root t.root = ms at *
  obtain ⟨m, s3⟩ := ms
  have W3 := hid (HW.out.ex E3.out)
  clear c0 c2 c1 HW E3
  rw [← HN0.out, ← HN1.out] at W3
  obtain ⟨c0, c1, c2, c3, c4, c5, c6, c7, cf⟩ := W3.out.cells
  have hlt3 := W3.out.lt
  have CO := hid (fun w1 (k1 : Kept (fun _ => False) w3 w1) => costW mm q (by have := HMM.out; omega) (W3.out.plain k1) ST2.out (by show s3.steps ≤ 100000000; have : s3.steps ≤ q + 6 + 18 * (u.rank + t.rank + 1) := ST.out; have := RK.out; have := RK2.out; omega))
  rw [show decide (s3.steps ≤ q + (500 + 400 * bts mm)) = true by rw [HMM.out]; simp; have : s3.steps ≤ q + 6 + 18 * (u.rank + t.rank + 1) := ST.out; have := RK.out; have := RK2.out; omega] at CO
  clear c0 c2 c1 c5 c6 c7 cf
  go_wp2_with fail
  go_region_held3 (fun w' => w'.cell? ⟨pw, 4, none⟩ = some (.slice va n0 vc) ∧ w'.cell? ⟨pw, 3, none⟩ = some (.slice vb n1 vd)) (first | exact ⟨c4, c3⟩ | (simp [go_sem]; exact ⟨c4, c3⟩))
    (first
      | (go_at_call 28; refine (CO.out _ (by first | exact Kept.refl _ _ | exact (Kept.refl _ _).drew | exact (Kept.refl _ _).drewN _)).mono ?_; rintro e w4 ⟨rfl, sp2, mo2, h4⟩; replace c4 := h4.cells.2.2.2.2.1; replace c3 := h4.cells.2.2.2.1; have W4 := hid h4; clear h4))
  clear CO W3 hlt3 hmm hw1
  obtain ⟨_, c1, c2, _, _, _, _, _, cf⟩ := W4.out.cells
  have hlt4 := W4.out.lt
  have f2 := cf 1
  have f1 := cf 2
  clear cf c4 c3
  go_wp2_with fail
  go_region
  have kk := ((kept_pw w4 pw 2 (.int .i64 m)).trans' (kept_pw _ pw 1 (.int .i64 (-1)))).drew
  have HC : Hid (Wx w0 ((w4.setCell ⟨pw, 2, none⟩ (.int .i64 m)).setCell ⟨pw, 1, none⟩ (.int .i64 (-1))).drew F pw pa pm (.slice vb n1 vd) (.slice va n0 vc) s3 (-1) m L0 L1 nx sp2 mo2) := W4.out.wrote (r0' := -1) (r1' := m) kk (by have b1 := blk_set (j := 1) (u := .int .i64 (-1)) (blk_set (j := 2) (u := .int .i64 m) W4.out.blk); simp at b1; exact b1) (W4.out.l0.kept kk fun _ q => q.2) (W4.out.l1.kept kk fun _ q => q.2)
  clear kk W4 c2 c1 f2 f1 hlt4
  generalize ((w4.setCell ⟨pw, 2, none⟩ (.int .i64 m)).setCell ⟨pw, 1, none⟩ (.int .i64 (-1))).drew = wC at *
  obtain ⟨_, _, _, d3, d4, _, _, _, _⟩ := HC.out.cells
  have hlC := HC.out.lt
  go_wp2_with fail
  refine wp_region_noPanic ?_
  refine tl_begin (S := (fun w' => w'.cell? ⟨pw, 4, none⟩ = some (.slice va n0 vc) ∧ w'.cell? ⟨pw, 3, none⟩ = some (.slice vb n1 vd))) 24 (by kernel_rfl) ?_
  have hHeld : wC.drew.cell? ⟨pw, 4, none⟩ = some (.slice va n0 vc) ∧ wC.drew.cell? ⟨pw, 3, none⟩ = some (.slice vb n1 vd) := ⟨d4, d3⟩
  have WD : Hid (Wx w0 wC.drew F pw pa pm (.slice vb n1 vd) (.slice va n0 vc) s3 (-1) m L0 L1 nx sp2 mo2) := HC.out.drewN 1
  have hlW : pw < wC.drew.heap.size := hlC
  have S1 := hid (show Sz wC.drew.heap.size wC.drew (.slice va n0 vc) L1 from WD.out.l1.src)
  have S2 := hid (show Sz wC.drew.heap.size wC.drew (.slice vb n1 vd) L0 from WD.out.l0.src)
  have HH := hid hHeld
  clear HC d4 d3 hlC
  generalize wC.drew = W at *
  refine tl_any 0 60 (.pointer (some ⟨pw, 0, none⟩)) rfl rfl (by kernel_rfl) (by kernel_rfl) (by kernel_rfl) (fun _ _ _ h => h) (by decide) (by rfl) (fun wS => by go_simp) (by assumption) ?_
  simp only [Act.put, List.setIfInBounds_toArray, List.set_cons_zero, List.set_cons_succ]
  refine tl_any 1 61 (.int .i64 1) rfl rfl (by kernel_rfl) (by kernel_rfl) (by kernel_rfl) (fun _ _ _ h => h) (by decide) (by rfl) (fun wS => by go_simp) (by assumption) ?_
  simp only [Act.put, List.setIfInBounds_toArray, List.set_cons_zero, List.set_cons_succ]
  refine tl_any 2 62 (.pointer (some ⟨pw, 0, none⟩)) rfl rfl (by kernel_rfl) (by kernel_rfl) (by kernel_rfl) (fun _ _ _ h => h) (by decide) (by rfl) (fun wS => by go_simp) (by assumption) ?_
  simp only [Act.put, List.setIfInBounds_toArray, List.set_cons_zero, List.set_cons_succ]
  refine tl_any 3 63 (.int .i64 1) rfl rfl (by kernel_rfl) (by kernel_rfl) (by kernel_rfl) (fun _ _ _ h => h) (by decide) (by rfl) (fun wS => by go_simp) (by assumption) ?_
  simp only [Act.put, List.setIfInBounds_toArray, List.set_cons_zero, List.set_cons_succ]
  refine tl_any 4 64 (.int .i64 0) rfl rfl (by kernel_rfl) (by kernel_rfl) (by kernel_rfl) (fun _ _ _ h => h) (by decide) (by rfl) (fun wS => by (first | (go_simp; done) | (go_simp; rfl) | (go_simp; decide) | rfl)) (by assumption) ?_
  simp only [Act.put, List.setIfInBounds_toArray, List.set_cons_zero, List.set_cons_succ]
  refine tl_any 6 66 (.pointer (some ⟨pw, 0, none⟩)) rfl rfl (by kernel_rfl) (by kernel_rfl) (by kernel_rfl) (fun _ _ _ h => h) (by decide) (by rfl) (fun wS => by go_simp) (by assumption) ?_
  simp only [Act.put, List.setIfInBounds_toArray, List.set_cons_zero, List.set_cons_succ]
  refine tl_any 7 67 (.int .i64 1) rfl rfl (by kernel_rfl) (by kernel_rfl) (by kernel_rfl) (fun _ _ _ h => h) (by decide) (by rfl) (fun wS => by go_simp) (by assumption) ?_
  simp only [Act.put, List.setIfInBounds_toArray, List.set_cons_zero, List.set_cons_succ]
  refine tl_any 8 68 (.pointer (some ⟨pw, 0, none⟩)) rfl rfl (by kernel_rfl) (by kernel_rfl) (by kernel_rfl) (fun _ _ _ h => h) (by decide) (by rfl) (fun wS => by go_simp) (by assumption) ?_
  simp only [Act.put, List.setIfInBounds_toArray, List.set_cons_zero, List.set_cons_succ]
  refine tl_any 9 69 (.pointer (some ⟨pw, 3, none⟩)) rfl rfl (by kernel_rfl) (by kernel_rfl) (by kernel_rfl) (fun _ _ _ h => h) (by decide) (by rfl) (fun wS => by go_simp) (by assumption) ?_
  simp only [Act.put, List.setIfInBounds_toArray, List.set_cons_zero, List.set_cons_succ]
  refine tl_any 10 70 (.pointer (some ⟨pw, 4, none⟩)) rfl rfl (by kernel_rfl) (by kernel_rfl) (by kernel_rfl) (fun _ _ _ h => h) (by decide) (by rfl) (fun wS => by (first | (go_simp; done) | (go_simp; rfl) | (go_simp; decide) | rfl)) (by assumption) ?_
  simp only [Act.put, List.setIfInBounds_toArray, List.set_cons_zero, List.set_cons_succ]
  refine tl_take 11 71 (.slice va n0 vc) rfl rfl (by kernel_rfl) (by kernel_rfl) (by kernel_rfl) (fun _ _ _ h => h) (by decide) (by kernel_rfl) (by kernel_rfl) (by rfl) (fun wS hS => by (try dsimp only at hS); go_split_ands; go_simp) (by assumption) ?_
  simp only [Act.put, List.setIfInBounds_toArray, List.set_cons_zero, List.set_cons_succ]
  refine tl_any 13 73 (.pointer (some ⟨pw, 0, none⟩)) rfl rfl (by kernel_rfl) (by kernel_rfl) (by kernel_rfl) (fun _ _ _ h => h) (by decide) (by rfl) (fun wS => by go_simp) (by assumption) ?_
  simp only [Act.put, List.setIfInBounds_toArray, List.set_cons_zero, List.set_cons_succ]
  refine tl_any 14 74 (.int .i64 1) rfl rfl (by kernel_rfl) (by kernel_rfl) (by kernel_rfl) (fun _ _ _ h => h) (by decide) (by rfl) (fun wS => by go_simp) (by assumption) ?_
  simp only [Act.put, List.setIfInBounds_toArray, List.set_cons_zero, List.set_cons_succ]
  refine tl_any 15 75 (.int .i64 0) rfl rfl (by kernel_rfl) (by kernel_rfl) (by kernel_rfl) (fun _ _ _ h => h) (by decide) (by rfl) (fun wS => by (first | (go_simp; done) | (go_simp; rfl) | (go_simp; decide) | rfl)) (by assumption) ?_
  simp only [Act.put, List.setIfInBounds_toArray, List.set_cons_zero, List.set_cons_succ]
  refine tl_any 16 76 (.pointer (some ⟨pw, 0, none⟩)) rfl rfl (by kernel_rfl) (by kernel_rfl) (by kernel_rfl) (fun _ _ _ h => h) (by decide) (by rfl) (fun wS => by go_simp) (by assumption) ?_
  simp only [Act.put, List.setIfInBounds_toArray, List.set_cons_zero, List.set_cons_succ]
  refine tl_any 17 77 (.pointer (some ⟨pw, 3, none⟩)) rfl rfl (by kernel_rfl) (by kernel_rfl) (by kernel_rfl) (fun _ _ _ h => h) (by decide) (by rfl) (fun wS => by go_simp) (by assumption) ?_
  simp only [Act.put, List.setIfInBounds_toArray, List.set_cons_zero, List.set_cons_succ]
  refine tl_any 18 78 (.pointer (some ⟨pw, 3, none⟩)) rfl rfl (by kernel_rfl) (by kernel_rfl) (by kernel_rfl) (fun _ _ _ h => h) (by decide) (by rfl) (fun wS => by (first | (go_simp; done) | (go_simp; rfl) | (go_simp; decide) | rfl)) (by assumption) ?_
  simp only [Act.put, List.setIfInBounds_toArray, List.set_cons_zero, List.set_cons_succ]
  refine tl_take 19 79 (.slice vb n1 vd) rfl rfl (by kernel_rfl) (by kernel_rfl) (by kernel_rfl) (fun _ _ _ h => h) (by decide) (by kernel_rfl) (by kernel_rfl) (by rfl) (fun wS hS => by (try dsimp only at hS); go_split_ands; go_simp) (by assumption) ?_
  simp only [Act.put, List.setIfInBounds_toArray, List.set_cons_zero, List.set_cons_succ]
  refine tl_any 21 81 (.pointer (some ⟨pw, 0, none⟩)) rfl rfl (by kernel_rfl) (by kernel_rfl) (by kernel_rfl) (fun _ _ _ h => h) (by decide) (by rfl) (fun wS => by go_simp) (by assumption) ?_
  simp only [Act.put, List.setIfInBounds_toArray, List.set_cons_zero, List.set_cons_succ]
  refine tl_any 22 82 (.pointer (some ⟨pw, 3, none⟩)) rfl rfl (by kernel_rfl) (by kernel_rfl) (by kernel_rfl) (fun _ _ _ h => h) (by decide) (by rfl) (fun wS => by go_simp) (by assumption) ?_
  simp only [Act.put, List.setIfInBounds_toArray, List.set_cons_zero, List.set_cons_succ]
  refine tl_any 25 84 (.pointer (some ⟨pw, 0, none⟩)) rfl rfl (by kernel_rfl) (by kernel_rfl) (by kernel_rfl) (fun _ _ _ h => h) (by decide) (by rfl) (fun wS => by go_simp) (by assumption) ?_
  simp only [Act.put, List.setIfInBounds_toArray, List.set_cons_zero, List.set_cons_succ]
  refine tl_any 26 85 (.pointer (some ⟨pw, 3, none⟩)) rfl rfl (by kernel_rfl) (by kernel_rfl) (by kernel_rfl) (fun _ _ _ h => h) (by decide) (by rfl) (fun wS => by go_simp) (by assumption) ?_
  simp only [Act.put, List.setIfInBounds_toArray, List.set_cons_zero, List.set_cons_succ]
  clear hHeld
  refine tl_ready (rs := [5]) (by kernel_rfl) (by simp) ?_
  refine AllT.cons rfl (fun K hK => ?_) AllT.nil
  go_simp
  go_wp2_with fail
  refine hK.out _ _ (fun _ => ⟨(((Kept.refl (fun _ => False) W).alloc _).cell (p := ⟨pw, 4, none⟩) hlW (fun e => e)).trans HH.out.1, (((Kept.refl (fun _ => False) W).alloc _).cell (p := ⟨pw, 3, none⟩) hlW (fun e => e)).trans HH.out.2⟩) ?_
  clear hK K
  refine tl_ready (rs := [12]) (by kernel_rfl) (by simp) ?_
  refine AllT.cons rfl (fun K hK => ?_) AllT.nil
  refine step_append_sz rfl (.tmp 65) (.tmp 71) rfl W.heap.size W.heap.size _ _ 0 [] L1 rfl rfl (by exact lit3 W (Nat.le_refl _)) (by exact S1.out.kept ((Kept.refl (fun _ => False) W).alloc _).plain0) (by have := HN0.out; omega) (by simp <;> omega) ?_
  intro v3 w3 o3 g3
  have K3 := hid (((Kept.refl (fun _ => False) W).alloc _).grown g3 (fun k hk => Or.inr (by cases hk; simp <;> omega)))
  have O3 := hid o3
  clear o3 g3
  go_wp2_with fail
  refine hK.out _ _ (fun _ => ⟨(K3.out.cell (p := ⟨pw, 4, none⟩) hlW (fun e => e)).trans HH.out.1, (K3.out.cell (p := ⟨pw, 3, none⟩) hlW (fun e => e)).trans HH.out.2⟩) ?_
  clear hK K
  refine tl_ready (rs := [20]) (by kernel_rfl) (by simp) ?_
  refine AllT.cons rfl (fun K hK => ?_) AllT.nil
  refine step_append_sz rfl (.tmp 72) (.tmp 79) rfl W.heap.size W.heap.size v3 _ (0 + L1.length) ([] ++ row h3 L1) L0 rfl rfl (by exact O3.out) (by exact S2.out.kept K3.out.plain0) (by have := HN0.out; have := HN1.out; omega) (by exact K3.out.size) ?_
  intro v4 w4 o4 g4
  have K4 := hid (K3.out.grown g4 (fun k hk => Or.inr (O3.out.lt k hk).1))
  have O4 := hid o4
  obtain ⟨va4, vc4, rfl⟩ := own_form o4
  clear o4 g4
  generalize hn4 : 0 + L1.length + L0.length = n4 at *
  have HN4 := hid hn4
  clear hn4
  go_wp2_with fail
  refine hK.out _ _ (fun _ => ⟨(K4.out.cell (p := ⟨pw, 4, none⟩) hlW (fun e => e)).trans HH.out.1, (K4.out.cell (p := ⟨pw, 3, none⟩) hlW (fun e => e)).trans HH.out.2⟩) ?_
  clear hK K
  have hHeld : w4.cell? ⟨pw, 4, none⟩ = some (.slice va n0 vc) ∧ w4.cell? ⟨pw, 3, none⟩ = some (.slice vb n1 vd) := ⟨(K4.out.cell (p := ⟨pw, 4, none⟩) hlW (fun e => e)).trans HH.out.1, (K4.out.cell (p := ⟨pw, 3, none⟩) hlW (fun e => e)).trans HH.out.2⟩
  refine tl_any 23 83 (.pointer (some ⟨pw, 4, none⟩)) rfl rfl (by kernel_rfl) (by kernel_rfl) (by kernel_rfl) (fun _ _ _ h => h) (by decide) (by rfl) (fun wS => by (first | (go_simp; done) | (go_simp; rfl) | (go_simp; decide) | rfl)) (by assumption) ?_
  simp only [Act.put, List.setIfInBounds_toArray]
  obtain ⟨c34, c44⟩ := hHeld
  have W4 := hid (WD.out.plain K4.out)
  have hl4 := W4.out.lt
  have f34 := W4.out.cells.2.2.2.2.2.2.2.2 3
  have f44 := W4.out.cells.2.2.2.2.2.2.2.2 4
  refine tl_ready (rs := [24]) (by kernel_rfl) (by simp) ?_
  refine AllT.cons rfl (fun K hK => ?_) AllT.nil
  go_simp
  refine hK.out _ _ (fun h => Bool.noConfusion (show true = false from h)) ?_
  clear hK K
  refine tl_ready (rs := [27]) (by kernel_rfl) (by simp) ?_
  refine AllT.cons rfl (fun K hK => ?_) AllT.nil
  go_simp
  refine hK.out _ _ (fun h => Bool.noConfusion (show true = false from h)) ?_
  clear hK K
  refine tl_ready (rs := [28]) (by kernel_rfl) (by simp) ?_
  refine AllT.cons rfl (fun K hK => ?_) AllT.nil
  go_simp
  refine hK.out _ _ (fun h => Bool.noConfusion (show true = false from h)) ?_
  clear hK K
  refine tl_done (by kernel_rfl) ?_ _
  refine NoPanic.normal ?_
  go_wp2
  go_ret
  have er : row h3 (L1 ++ L0) = [] ++ row h3 L1 ++ row h3 L0 := by rw [row_append]; simp
  have el : (L1 ++ L0).length = n4 := by rw [← HN4.out]; simp
  have LZ : Lz (fun b => ¬ F b ∧ b ≠ pw) w4 (.slice va4 n4 vc4) (L1 ++ L0) := Lz.of_own (base := W.heap.size) (by rw [er, el]; exact O4.out) (fun b hb _ => ⟨fun z => by have := WD.out.is.lt b z; omega, by omega⟩)
  have kk1 := (kept_pw w4 pw 4 (.slice va4 n4 vc4)).trans' (kept_pw _ pw 3 (.slice none 0 0))
  have W6 := W4.out.wrote (v0' := .slice none 0 0) (v1' := .slice va4 n4 vc4) (L0' := []) kk1 (by have b1 := blk_set (j := 3) (u := .slice none 0 0) (blk_set (j := 4) (u := .slice va4 n4 vc4) W4.out.blk); simp at b1; exact b1) (Lz.nil _ _) (LZ.kept kk1 fun _ q => q.2)
  rw [HRT.out] at W6
  exact ⟨rfl, F, pa, pm, _, _, _, lf, t', sp2, mo2, W6, HIN.out.swap, by have : s3.steps ≤ q + 6 + 18 * (u.rank + t.rank + 1) := ST.out; have := RK.out; have := RK2.out; have := HQ.out; have := HKK.out; omega, MO.out⟩
end Go.Proofs.YtnkpopeahmjodaaGreat

/- The laws' push into the second heap, where there is room. -/
namespace Go.Proofs.YtnkpopeahmjodaaGreat
open Go.ChangeShapes Go.WideShapes Go.ChangeAt Go.RowKit
open Tr

set_option maxHeartbeats 8000000 in
set_option maxRecDepth 100000 in
theorem push1 {w0 : Fm} {w : World} {pw N K : Nat} {L0 L1 : List (Nat × Int × Int)} {nx : Int} (h : Sit w0 w pw N K L0 L1 nx) (hroom : 2 * (L0.length + L1.length) + 2 ≤ N) (hl : L1.length ≤ 699) (hnx : 0 ≤ nx ∧ nx ≤ 1000000) (hK : K ≤ 90000000) (key : Int) :
    Calls Tryz.prog 14 #[.pointer (some ⟨pw, 0, none⟩), .int .i64 1, .int .i64 key] w fun e w' => e = .returned (.bool true) ∧ ∃ i, Sit w0 w' pw N (K + 1500) L0 (L1 ++ [(i, key, nx)]) (nx + 1) := by
  obtain ⟨F, pa, pm, v0, v1, s, t, u, sp, mo, hw, hi, hk, hm⟩ := h
  have hx0 : 0 ≤ nextS s := (room_iff hi.ok).2 (by rw [hi.num, hm]; omega)
  obtain ⟨i, ei, h1, k7, k8⟩ := new_inv hi.swap key nx hx0
  have hx1 : 0 ≤ nextS (newS s key nx) := (room_iff h1.ok).2 (by rw [h1.num, new_most, hm]; omega)
  have PI := hid (fun q => push_inv h1 hx1 (by omega) q)
  obtain ⟨n, en, ln, li, hrt, _⟩ := PI.out 0
  have hsz := hi.b.len
  have rk := Nat.le_trans (rank_bts hi.b.gd.lft) (bts_mono (show u.size ≤ L1.length + 1 by omega))
  have b20 := bts_le 20 (L1.length + 1) (by omega)
  have HW := hid hw
  have NW := hid (fun w1 (k1 : Kept (fun _ => False) w w1) => newT key nx ((Aft.start hw.is).plain k1) (by omega))
  rw [ei] at NW
  simp only [Int.natCast_nonneg, decide_true] at NW
  have ST1 := hid (new_steps hx0 key nx)
  have MO1 := hid ((new_most s key nx).trans hm)
  have CN1 := hid h1.num
  have rcl : Cl u.root := by
    cases ht : u with
    | lf => exact Cl.none
    | nd a b c d => have := hi.b.gd.hp; rw [ht] at this; exact ls_cl hi.ok this.1.1
  have PU := hid (fun (F1 : Nat → Prop) (wa wb : World) (ha : Aft F1 wa wb pa pm (newS s key nx)) => pushT (u.rank + 2) u.root (i : Int) h1.live (cell_neg (j := 9) h1.live (by decide) h1.free) hx1 (by rw [en]; exact ln) li (ls_cl h1.ok h1.live) (by omega) rcl (fun k => by
    obtain ⟨n', en', _, _, hr', hm', _⟩ := PI.out k
    rw [hr', en']; exact hm') ha (by rw [new_steps hx0]; omega))
  rw [hrt, en] at PU
  obtain ⟨c0, c1, c2, c3, c4, c5, c6, c7, cf⟩ := hw.cells
  have hlt := hw.lt
  have hout := hid hw.out
  obtain ⟨va, vc, hv'⟩ := hw.l1.form
  subst hv'
  have HKK := hid hk
  have RK := hid rk
  have OK1 := hid h1.ok
  obtain ⟨len, hlen⟩ : ∃ len, len = L1.length := ⟨_, rfl⟩
  have HLN := hid hlen
  rw [← hlen] at c4 hl rk b20 RK
  generalize newS s key nx = s1 at *
  have HK7 := hid k7
  have HK8 := hid k8
  have EN := hid en
  have HRM := hid hroom
  clear k7 k8 en hlen hroom rk
  clear hw hi hk hm h1 hx0 hx1 hsz hrt ln li rcl ei
  obtain ⟨hnx0, hnx1⟩ := hnx
  go_enter Tryz.func14, Tryz.ntmps14
  go_wp2_with fail
  go_region_held3 (fun w' => w'.cell? ⟨pw, 0, none⟩ = some (.pointer (some ⟨pa, 0, none⟩)) ∧ w'.cell? ⟨pw, 5, none⟩ = some (.int .i64 nx)) (first | exact ⟨c0, c5⟩ | (simp [go_sem]; exact ⟨c0, c5⟩))
    (first
      | (go_at_call 32; refine (NW.out _ (by first | exact Kept.refl _ _ | exact (Kept.refl _ _).drew | exact (Kept.refl _ _).drewN _)).mono ?_; rintro e w3 ⟨rfl, e3⟩; replace c0 := (e3.kept.cell (p := ⟨pw, 0, none⟩) hlt hout.out).trans c0; replace c5 := (e3.kept.cell (p := ⟨pw, 5, none⟩) hlt hout.out).trans c5; have E3 := hid e3; clear e3))
  have W3 := hid (HW.out.aft E3.out)
  clear c0 c1 c2 c3 c4 c5 c6 c7 cf hout HW NW
  generalize Grow F w w3 = F1 at W3
  clear E3
  obtain ⟨cc, hcc⟩ : ∃ cc, cc = cnt s1.pl := ⟨_, rfl⟩
  have hcN : cc < N := by rw [hcc, CN1.out]; have := HRM.out; omega
  have LN := hid (fun q => lenA pa pm s1 F1 (w3.drewN q) (W3.out.is.drewN q))
  have CL := hid (fun q => cellsA pa pm s1 F1 (w3.drewN q) (W3.out.is.drewN q))
  rw [← hcc] at LN
  rw [MO1.out] at CL
  have hcN' : (cc : Int) < (N : Int) := by omega
  clear hcc
  obtain ⟨c0, c1, c2, c3, c4, c5, c6, c7, cf⟩ := W3.out.cells
  rw [← HLN.out] at c4
  have hlt3 := W3.out.lt
  clear c1 c2 c3 c4 c5 c6 c7 cf
  go_wp2_with fail
  go_quiet
    (first
      | (go_at_call 13; refine Calls.quiet_of (LN.out _))
      | (go_at_call 33; refine Calls.quiet_of_same (CL.out _)))
  have W4 := hid (W3.out.drewN nq)
  clear LN CL c0 W3 hlt3
  generalize w3.drewN nq = w4 at *
  have M := hid (meterA pa pm s1 F1 w4 W4.out.is)
  have T := hid (stepsA pa pm s1 F1 w4 W4.out.is)
  obtain ⟨q, hq⟩ : ∃ q, q = s1.steps := ⟨_, rfl⟩
  rw [← hq] at T
  have HQ := hid hq
  have hq1 : q ≤ 90000010 := by rw [hq, ST1.out]; have := HKK.out; omega
  clear hq
  obtain ⟨c0, c1, c2, c3, c4, c5, c6, c7, cf⟩ := W4.out.cells
  have hlt := W4.out.lt
  have hout := hid W4.out.out
  clear c3 c4 c5 c6 c7 cf
  go_wp2_with fail
  refine M.out.mono ?_
  rintro e wA ⟨rfl, rfl⟩
  go_wp2_with fail
  refine T.out.mono ?_
  rintro e wB ⟨rfl, rfl⟩
  clear M T
  go_wp2_with fail
  go_region_held3 (fun w' => w'.cell? ⟨pw, 0, none⟩ = some (.pointer (some ⟨pa, 0, none⟩)) ∧ w'.cell? ⟨pw, 2, none⟩ = some (.int .i64 u.root)) (first | exact ⟨c0, c2⟩ | (simp [go_sem]; exact ⟨c0, c2⟩))
    (first
      | (go_at_call 34; refine (PU.out F1 wB _ ((Aft.start W4.out.is).plain (by first | exact Kept.refl _ _ | exact (Kept.refl _ _).drew | exact (Kept.refl _ _).drewN _))).mono ?_; rintro e w5 ⟨k, hk, rfl, e5⟩; replace c0 := (e5.kept.cell (p := ⟨pw, 0, none⟩) hlt hout.out).trans c0; replace c2 := (e5.kept.cell (p := ⟨pw, 2, none⟩) hlt hout.out).trans c2; have E5 := hid e5; clear e5))
  obtain ⟨n', en', _, _, hr', _, t', hrt, hin⟩ := PI.out k
  obtain rfl : n = n' := by have := EN.out.symm.trans en'; omega
  have ST := hid (show (meldS (u.rank + 2) (tk (puS s1 (i : Int)) k) u.root (n : Int)).2.steps ≤ q + 8 + 18 * (u.rank + 2) by
    have := meld_steps (u.rank + 2) (tk (puS s1 (i : Int)) k) u.root (n : Int)
    have e : (tk (puS s1 (i : Int)) k).steps = s1.steps + 5 + k := by show (puS s1 (i : Int)).steps + k = _; rw [pu_steps]
    rw [e, ← HQ.out] at this
    omega)
  have ST2 := hid (show q ≤ (meldS (u.rank + 2) (tk (puS s1 (i : Int)) k) u.root (n : Int)).2.steps by
    have := meld_steps_ge (u.rank + 2) (tk (puS s1 (i : Int)) k) u.root (n : Int)
    have e : (tk (puS s1 (i : Int)) k).steps = s1.steps + 5 + k := by show (puS s1 (i : Int)).steps + k = _; rw [pu_steps]
    rw [e, ← HQ.out] at this
    omega)
  have MO := hid (show (meldS (u.rank + 2) (tk (puS s1 (i : Int)) k) u.root (n : Int)).2.most = N by rw [meld_most]; show (puS s1 (i : Int)).most = N; rw [pu_most]; exact MO1.out)
  rw [HK7.out, HK8.out] at hin
  have HRT := hid hrt
  have HIN := hid hin
  clear hrt hin PI PU en' hr'
  generalize meldS (u.rank + 2) (tk (puS s1 (i : Int)) k) u.root (n : Int) = ms at *
  obtain ⟨m, s3⟩ := ms
  have W5 := hid (W4.out.aft E5.out)
  clear c0 c1 c2 hout W4
  generalize Grow F1 wB w5 = G at W5
  clear E5
  obtain ⟨len1, hl1⟩ : ∃ len1 : Nat, (len : Int) + 1 = (len1 : Int) := ⟨len + 1, by omega⟩
  have hl1' : len1 = len + 1 := by omega
  have hw1 : IntKind.i64.wrap (len1 : Int) = (len1 : Int) := IntWalk.i64_in _ (by omega)
  have C := hid (costW len1 q (by omega) W5.out ST2.out (by show s3.steps ≤ 100000000; have : s3.steps ≤ q + 8 + 18 * (u.rank + 2) := ST.out; have := RK.out; omega))
  rw [show decide (s3.steps ≤ q + (500 + 400 * bts len1)) = true by rw [hl1']; simp; have : s3.steps ≤ q + 8 + 18 * (u.rank + 2) := ST.out; have := RK.out; omega] at C
  obtain ⟨c0, c1, c2, c3, c4, c5, c6, c7, cf⟩ := W5.out.cells
  rw [← HLN.out] at c4
  have hlt5 := W5.out.lt
  clear c0 c1 c2 c5 c6 c7 cf hl1'
  go_wp2_with fail
  refine C.out.mono ?_
  rintro e w6 ⟨rfl, sp2, mo2, h6⟩
  have W6 := hid h6
  clear C c3 c4 W5 hlt5 h6
  obtain ⟨c0, c1, c2, c3, c4, c5, c6, c7, cf⟩ := W6.out.cells
  have hlt6 := W6.out.lt
  have fR := cf 2
  have kk := kept_pw w6 pw 2 (.int .i64 m)
  have HC := hid (W6.out.wrote (r1' := m) kk (by have b1 := blk_set (j := 2) (u := .int .i64 m) W6.out.blk; simp at b1; exact b1) (W6.out.l0.kept kk fun _ q => q.2) (W6.out.l1.kept kk fun _ q => q.2))
  rw [← HLN.out] at HC
  clear kk c0 c3 c4 c5 c6 c7 cf hl1 hw1
  go_upto_region 12 with fail
  clear W6 hlt6 fR c1 c2
  generalize w6.setCell ⟨pw, 2, none⟩ (.int .i64 m) = wC at *
  obtain ⟨_, _, _, dd3, dd4, d5, _, _, dcf⟩ := HC.out.cells
  have dV := dd4
  have hlC := HC.out.lt
  have fVC := dcf 4
  clear dd3 dd4 dcf
  refine wp_region_noPanic ?_
  refine tl_begin (S := (fun w' => w'.cell? ⟨pw, 4, none⟩ = some (.slice va len vc) ∧ w'.cell? ⟨pw, 5, none⟩ = some (.int .i64 nx))) 23 (by kernel_rfl) ?_
  have hHeld : wC.drew.cell? ⟨pw, 4, none⟩ = some (.slice va len vc) ∧ wC.drew.cell? ⟨pw, 5, none⟩ = some (.int .i64 nx) := ⟨dV, d5⟩
  have WD := hid (HC.out.drewN 1)
  have hlW : pw < wC.drew.heap.size := hlC
  have S1 := hid (show Sz wC.drew.heap.size wC.drew (.slice va len vc) L1 from WD.out.l1.src)
  have HH := hid hHeld
  have fV : wC.drew.frozen? ⟨pw, 4, none⟩ = false := fVC
  replace WD : Hid (Wx w0 wC.drew G pw pa pm v0 (.slice va len vc) s3 t.root m L0 L1 nx sp2 mo2) := WD.out
  clear HC dV d5 fVC hlC
  generalize wC.drew = W at *
  refine tl_take 0 112 (.pointer (some ⟨pw, 0, none⟩)) rfl rfl (by kernel_rfl) (by kernel_rfl) (by kernel_rfl) (fun _ _ _ h => h) (by decide) (by kernel_rfl) (by kernel_rfl) (by rfl) (fun wS hS => by (try dsimp only at hS); go_split_ands; go_simp) (by assumption) ?_
  simp only [Act.put, List.setIfInBounds_toArray, List.set_cons_zero, List.set_cons_succ]
  refine tl_take 1 113 (.int .i64 1) rfl rfl (by kernel_rfl) (by kernel_rfl) (by kernel_rfl) (fun _ _ _ h => h) (by decide) (by kernel_rfl) (by kernel_rfl) (by rfl) (fun wS hS => by (try dsimp only at hS); go_split_ands; go_simp) (by assumption) ?_
  simp only [Act.put, List.setIfInBounds_toArray, List.set_cons_zero, List.set_cons_succ]
  refine tl_take 3 115 (.pointer (some ⟨pw, 0, none⟩)) rfl rfl (by kernel_rfl) (by kernel_rfl) (by kernel_rfl) (fun _ _ _ h => h) (by decide) (by kernel_rfl) (by kernel_rfl) (by rfl) (fun wS hS => by (try dsimp only at hS); go_split_ands; go_simp) (by assumption) ?_
  simp only [Act.put, List.setIfInBounds_toArray, List.set_cons_zero, List.set_cons_succ]
  refine tl_take 4 116 (.int .i64 1) rfl rfl (by kernel_rfl) (by kernel_rfl) (by kernel_rfl) (fun _ _ _ h => h) (by decide) (by kernel_rfl) (by kernel_rfl) (by rfl) (fun wS hS => by (try dsimp only at hS); go_split_ands; go_simp) (by assumption) ?_
  simp only [Act.put, List.setIfInBounds_toArray, List.set_cons_zero, List.set_cons_succ]
  refine tl_take 5 117 (.pointer (some ⟨pw, 0, none⟩)) rfl rfl (by kernel_rfl) (by kernel_rfl) (by kernel_rfl) (fun _ _ _ h => h) (by decide) (by kernel_rfl) (by kernel_rfl) (by rfl) (fun wS hS => by (try dsimp only at hS); go_split_ands; go_simp) (by assumption) ?_
  simp only [Act.put, List.setIfInBounds_toArray, List.set_cons_zero, List.set_cons_succ]
  refine tl_take 6 118 (.pointer (some ⟨pw, 3, none⟩)) rfl rfl (by kernel_rfl) (by kernel_rfl) (by kernel_rfl) (fun _ _ _ h => h) (by decide) (by kernel_rfl) (by kernel_rfl) (by rfl) (fun wS hS => by (try dsimp only at hS); go_split_ands; go_simp) (by assumption) ?_
  simp only [Act.put, List.setIfInBounds_toArray, List.set_cons_zero, List.set_cons_succ]
  refine tl_take 7 119 (.pointer (some ⟨pw, 4, none⟩)) rfl rfl (by kernel_rfl) (by kernel_rfl) (by kernel_rfl) (fun _ _ _ h => h) (by decide) (by kernel_rfl) (by kernel_rfl) (by rfl) (fun wS hS => by (try dsimp only at hS); go_split_ands; go_simp) (by assumption) ?_
  simp only [Act.put, List.setIfInBounds_toArray, List.set_cons_zero, List.set_cons_succ]
  refine tl_take 8 120 (.slice va len vc) rfl rfl (by kernel_rfl) (by kernel_rfl) (by kernel_rfl) (fun _ _ _ h => h) (by decide) (by kernel_rfl) (by kernel_rfl) (by rfl) (fun wS hS => by (try dsimp only at hS); go_split_ands; go_simp) (by assumption) ?_
  simp only [Act.put, List.setIfInBounds_toArray, List.set_cons_zero, List.set_cons_succ]
  refine tl_take 10 122 (.int .i64 (i : Int)) rfl rfl (by kernel_rfl) (by kernel_rfl) (by kernel_rfl) (fun _ _ _ h => h) (by decide) (by kernel_rfl) (by kernel_rfl) (by rfl) (fun wS hS => by (try dsimp only at hS); go_split_ands; go_simp) (by assumption) ?_
  simp only [Act.put, List.setIfInBounds_toArray, List.set_cons_zero, List.set_cons_succ]
  refine tl_take 11 123 (.int .i64 key) rfl rfl (by kernel_rfl) (by kernel_rfl) (by kernel_rfl) (fun _ _ _ h => h) (by decide) (by kernel_rfl) (by kernel_rfl) (by rfl) (fun wS hS => by (try dsimp only at hS); go_split_ands; go_simp) (by assumption) ?_
  simp only [Act.put, List.setIfInBounds_toArray, List.set_cons_zero, List.set_cons_succ]
  refine tl_take 12 124 (.pointer (some ⟨pw, 0, none⟩)) rfl rfl (by kernel_rfl) (by kernel_rfl) (by kernel_rfl) (fun _ _ _ h => h) (by decide) (by kernel_rfl) (by kernel_rfl) (by rfl) (fun wS hS => by (try dsimp only at hS); go_split_ands; go_simp) (by assumption) ?_
  simp only [Act.put, List.setIfInBounds_toArray, List.set_cons_zero, List.set_cons_succ]
  refine tl_take 13 125 (.pointer (some ⟨pw, 0, none⟩)) rfl rfl (by kernel_rfl) (by kernel_rfl) (by kernel_rfl) (fun _ _ _ h => h) (by decide) (by kernel_rfl) (by kernel_rfl) (by rfl) (fun wS hS => by (try dsimp only at hS); go_split_ands; go_simp) (by assumption) ?_
  simp only [Act.put, List.setIfInBounds_toArray, List.set_cons_zero, List.set_cons_succ]
  refine tl_take 14 126 (.pointer (some ⟨pw, 5, none⟩)) rfl rfl (by kernel_rfl) (by kernel_rfl) (by kernel_rfl) (fun _ _ _ h => h) (by decide) (by kernel_rfl) (by kernel_rfl) (by rfl) (fun wS hS => by (try dsimp only at hS); go_split_ands; go_simp) (by assumption) ?_
  simp only [Act.put, List.setIfInBounds_toArray, List.set_cons_zero, List.set_cons_succ]
  refine tl_take 15 127 (.int .i64 nx) rfl rfl (by kernel_rfl) (by kernel_rfl) (by kernel_rfl) (fun _ _ _ h => h) (by decide) (by kernel_rfl) (by kernel_rfl) (by rfl) (fun wS hS => by (try dsimp only at hS); go_split_ands; go_simp) (by assumption) ?_
  simp only [Act.put, List.setIfInBounds_toArray, List.set_cons_zero, List.set_cons_succ]
  refine tl_take 16 128 (.agg #[.int .i64 key, .int .i64 nx]) rfl rfl (by kernel_rfl) (by kernel_rfl) (by kernel_rfl) (fun _ _ _ h => h) (by decide) (by kernel_rfl) (by kernel_rfl) (by rfl) (fun wS hS => by (try dsimp only at hS); go_split_ands; go_simp) (by assumption) ?_
  simp only [Act.put, List.setIfInBounds_toArray, List.set_cons_zero, List.set_cons_succ]
  refine tl_take 17 129 (.agg #[.int .i64 (i : Int), .int .i64 key, .int .i64 nx]) rfl rfl (by kernel_rfl) (by kernel_rfl) (by kernel_rfl) (fun _ _ _ h => h) (by decide) (by kernel_rfl) (by kernel_rfl) (by rfl) (fun wS hS => by (try dsimp only at hS); go_split_ands; go_simp) (by assumption) ?_
  simp only [Act.put, List.setIfInBounds_toArray, List.set_cons_zero, List.set_cons_succ]
  refine tl_any 20 132 (.pointer (some ⟨pw, 0, none⟩)) rfl rfl (by kernel_rfl) (by kernel_rfl) (by kernel_rfl) (fun _ _ _ h => h) (by decide) (by rfl) (fun wS => by go_simp) (by assumption) ?_
  simp only [Act.put, List.setIfInBounds_toArray, List.set_cons_zero, List.set_cons_succ]
  refine tl_any 21 133 (.pointer (some ⟨pw, 3, none⟩)) rfl rfl (by kernel_rfl) (by kernel_rfl) (by kernel_rfl) (fun _ _ _ h => h) (by decide) (by rfl) (fun wS => by go_simp) (by assumption) ?_
  simp only [Act.put, List.setIfInBounds_toArray, List.set_cons_zero, List.set_cons_succ]
  clear hHeld
  refine tl_ready (rs := [2, 18]) (by kernel_rfl) (by simp) ?_
  refine AllT.cons rfl (fun K hK => ?_) (AllT.cons rfl (fun K hK => ?_) AllT.nil)
  · go_simp
    go_wp2_with fail
    refine hK.out _ _ (fun _ => ⟨(((Kept.refl (fun _ => False) W).alloc _).cell (p := ⟨pw, 4, none⟩) hlW (fun e => e)).trans HH.out.1, (((Kept.refl (fun _ => False) W).alloc _).cell (p := ⟨pw, 5, none⟩) hlW (fun e => e)).trans HH.out.2⟩) ?_
    clear hK K
    refine tl_ready (rs := [9, 18]) (by kernel_rfl) (by simp) ?_
    refine AllT.cons rfl (fun K hK => ?_) (AllT.cons rfl (fun K hK => ?_) AllT.nil)
    · refine step_append_sz rfl (.tmp 114) (.tmp 120) rfl W.heap.size W.heap.size _ _ 0 [] L1 rfl rfl (by exact lit3 W (Nat.le_refl _)) (by exact S1.out.kept ((Kept.refl (fun _ => False) W).alloc _).plain0) (by have := HLN.out; omega) (by simp <;> omega) ?_
      intro v3 w3 o3 g3
      have K3 := hid (((Kept.refl (fun _ => False) W).alloc _).grown g3 (fun k hk => Or.inr (by cases hk; simp <;> omega)))
      have O3 := hid o3
      clear o3 g3
      go_wp2_with fail
      refine hK.out _ _ (fun _ => ⟨(K3.out.cell (p := ⟨pw, 4, none⟩) hlW (fun e => e)).trans HH.out.1, (K3.out.cell (p := ⟨pw, 5, none⟩) hlW (fun e => e)).trans HH.out.2⟩) ?_
      clear hK K
      refine tl_ready (rs := [18]) (by kernel_rfl) (by simp) ?_
      refine AllT.cons rfl (fun K hK => ?_) AllT.nil
      go_simp
      go_wp2_with fail
      refine hK.out _ _ (fun _ => ⟨((K3.out.alloc _).cell (p := ⟨pw, 4, none⟩) hlW (fun e => e)).trans HH.out.1, ((K3.out.alloc _).cell (p := ⟨pw, 5, none⟩) hlW (fun e => e)).trans HH.out.2⟩) ?_
      clear hK K
      refine tl_ready (rs := [19]) (by kernel_rfl) (by simp) ?_
      refine AllT.cons rfl (fun K hK => ?_) AllT.nil
      refine step_append_sz rfl (.tmp 121) (.tmp 130) rfl W.heap.size _ v3 _ (0 + L1.length) ([] ++ row h3 L1) [(i, key, nx)] rfl rfl (by exact World.ownsRow.alloc O3.out _) (by exact Sz.one _ _) (by have := HLN.out; show 0 + L1.length + 1 ≤ 1000000; omega) (by exact (K3.out.alloc _).size) ?_
      intro v4 w4 o4 g4
      have K4 := hid ((K3.out.alloc _).grown g4 (fun k hk => Or.inr (O3.out.lt k hk).1))
      have O4 := hid o4
      obtain ⟨va4, vc4, rfl⟩ := own_form o4
      clear o4 g4
      generalize hn4 : 0 + L1.length + [(i, key, nx)].length = n4 at *
      have HN4 := hid hn4
      clear hn4
      go_wp2_with fail
      refine hK.out _ _ (fun _ => ⟨(K4.out.cell (p := ⟨pw, 4, none⟩) hlW (fun e => e)).trans HH.out.1, (K4.out.cell (p := ⟨pw, 5, none⟩) hlW (fun e => e)).trans HH.out.2⟩) ?_
      clear hK K
      have hHeld : w4.cell? ⟨pw, 4, none⟩ = some (.slice va len vc) ∧ w4.cell? ⟨pw, 5, none⟩ = some (.int .i64 nx) := ⟨(K4.out.cell (p := ⟨pw, 4, none⟩) hlW (fun e => e)).trans HH.out.1, (K4.out.cell (p := ⟨pw, 5, none⟩) hlW (fun e => e)).trans HH.out.2⟩
      refine tl_take 22 134 (.pointer (some ⟨pw, 4, none⟩)) rfl rfl (by kernel_rfl) (by kernel_rfl) (by kernel_rfl) (fun _ _ _ h => h) (by decide) (by kernel_rfl) (by kernel_rfl) (by rfl) (fun wS hS => by (try dsimp only at hS); go_split_ands; go_simp) (by assumption) ?_
      simp only [Act.put, List.setIfInBounds_toArray]
      clear hHeld
      have fV4 : w4.frozen? ⟨pw, 4, none⟩ = false := (World.frozen?_of_block (K4.out.block pw hlW (fun e => e))).trans fV
      have cV4 := (K4.out.cell (p := ⟨pw, 4, none⟩) hlW (fun e => e)).trans HH.out.1
      have hl4 := Nat.lt_of_lt_of_le hlW K4.out.size
      have c54 := (K4.out.cell (p := ⟨pw, 5, none⟩) hlW (fun e => e)).trans HH.out.2
      have f54 : w4.frozen? ⟨pw, 5, none⟩ = false := blk_free (WD.out.plain K4.out).blk
      refine tl_ready (rs := [23]) (by kernel_rfl) (by simp) ?_
      refine AllT.cons rfl (fun K hK => ?_) AllT.nil
      go_simp
      refine hK.out _ _ (fun h => Bool.noConfusion (show true = false from h)) ?_
      clear hK K
      refine tl_done (by kernel_rfl) ?_ _
      refine NoPanic.normal ?_
      go_wp2
      go_ret
      have er : row h3 (L1 ++ [(i, key, nx)]) = [] ++ row h3 L1 ++ row h3 [(i, key, nx)] := by rw [row_append]; simp
      have el : (L1 ++ [(i, key, nx)]).length = n4 := by rw [← HN4.out]; simp
      have W4 := WD.out.plain K4.out
      have LZ : Lz (fun b => ¬ G b ∧ b ≠ pw) w4 (.slice va4 n4 vc4) (L1 ++ [(i, key, nx)]) := Lz.of_own (base := W.heap.size) (by rw [er, el]; exact O4.out) (fun b hb _ => ⟨fun z => by have := WD.out.is.lt b z; omega, by omega⟩)
      have kk1 := kept_pw w4 pw 4 (.slice va4 n4 vc4)
      have W5 := W4.wrote (v1' := .slice va4 n4 vc4) kk1 (by have b1 := blk_set (j := 4) (u := .slice va4 n4 vc4) W4.blk; simp at b1; exact b1) (W4.l0.kept kk1 fun _ q => q.2) (LZ.kept kk1 fun _ q => q.2)
      have kk2 := kept_pw (w4.setCell ⟨pw, 4, none⟩ (.slice va4 n4 vc4)) pw 5 (.int .i64 (nx + 1))
      have W6 := W5.wrote (nx' := nx + 1) kk2 (by have b1 := blk_set (j := 5) (u := .int .i64 (nx + 1)) W5.blk; simp at b1; exact b1) (W5.l0.kept kk2 fun _ q => q.2) (W5.l1.kept kk2 fun _ q => q.2)
      rw [HRT.out] at W6
      exact ⟨rfl, i, G, pa, pm, _, _, _, _, _, sp2, mo2, W6, HIN.out.swap, by have : s3.steps ≤ q + 8 + 18 * (u.rank + 2) := ST.out; have := RK.out; have := HQ.out; have := ST1.out; have := HKK.out; omega, MO.out⟩
    · go_simp
      go_wp2_with fail
      refine hK.out _ _ (fun _ => ⟨((((Kept.refl (fun _ => False) W).alloc _).alloc _).cell (p := ⟨pw, 4, none⟩) hlW (fun e => e)).trans HH.out.1, ((((Kept.refl (fun _ => False) W).alloc _).alloc _).cell (p := ⟨pw, 5, none⟩) hlW (fun e => e)).trans HH.out.2⟩) ?_
      clear hK K
      refine tl_ready (rs := [9]) (by kernel_rfl) (by simp) ?_
      refine AllT.cons rfl (fun K hK => ?_) AllT.nil
      refine step_append_sz rfl (.tmp 114) (.tmp 120) rfl W.heap.size W.heap.size _ _ 0 [] L1 rfl rfl (by exact World.ownsRow.alloc (lit3 W (Nat.le_refl _)) _) (by exact S1.out.kept (((Kept.refl (fun _ => False) W).alloc _).alloc _).plain0) (by have := HLN.out; omega) (by simp <;> omega) ?_
      intro v3 w3 o3 g3
      have K3 := hid ((((Kept.refl (fun _ => False) W).alloc _).alloc _).grown g3 (fun k hk => Or.inr (by cases hk; simp <;> omega)))
      have XX := hid ((Sz.oneN (W.alloc (.cells #[] 46)) (W.heap.size + 1) (by simp) (i, key, nx)).grown g3 (by simp) (by intro hk; have := Option.some.inj hk; simp at this))
      have O3 := hid o3
      clear o3 g3
      go_wp2_with fail
      refine hK.out _ _ (fun _ => ⟨(K3.out.cell (p := ⟨pw, 4, none⟩) hlW (fun e => e)).trans HH.out.1, (K3.out.cell (p := ⟨pw, 5, none⟩) hlW (fun e => e)).trans HH.out.2⟩) ?_
      clear hK K
      refine tl_ready (rs := [19]) (by kernel_rfl) (by simp) ?_
      refine AllT.cons rfl (fun K hK => ?_) AllT.nil
      refine step_append_sz rfl (.tmp 121) (.tmp 130) rfl W.heap.size _ v3 _ (0 + L1.length) ([] ++ row h3 L1) [(i, key, nx)] rfl rfl (by exact O3.out) (by exact XX.out) (by have := HLN.out; show 0 + L1.length + 1 ≤ 1000000; omega) (by exact K3.out.size) ?_
      intro v4 w4 o4 g4
      have K4 := hid (K3.out.grown g4 (fun k hk => Or.inr (O3.out.lt k hk).1))
      have O4 := hid o4
      obtain ⟨va4, vc4, rfl⟩ := own_form o4
      clear o4 g4
      generalize hn4 : 0 + L1.length + [(i, key, nx)].length = n4 at *
      have HN4 := hid hn4
      clear hn4
      go_wp2_with fail
      refine hK.out _ _ (fun _ => ⟨(K4.out.cell (p := ⟨pw, 4, none⟩) hlW (fun e => e)).trans HH.out.1, (K4.out.cell (p := ⟨pw, 5, none⟩) hlW (fun e => e)).trans HH.out.2⟩) ?_
      clear hK K
      have hHeld : w4.cell? ⟨pw, 4, none⟩ = some (.slice va len vc) ∧ w4.cell? ⟨pw, 5, none⟩ = some (.int .i64 nx) := ⟨(K4.out.cell (p := ⟨pw, 4, none⟩) hlW (fun e => e)).trans HH.out.1, (K4.out.cell (p := ⟨pw, 5, none⟩) hlW (fun e => e)).trans HH.out.2⟩
      refine tl_take 22 134 (.pointer (some ⟨pw, 4, none⟩)) rfl rfl (by kernel_rfl) (by kernel_rfl) (by kernel_rfl) (fun _ _ _ h => h) (by decide) (by kernel_rfl) (by kernel_rfl) (by rfl) (fun wS hS => by (try dsimp only at hS); go_split_ands; go_simp) (by assumption) ?_
      simp only [Act.put, List.setIfInBounds_toArray]
      clear hHeld
      have fV4 : w4.frozen? ⟨pw, 4, none⟩ = false := (World.frozen?_of_block (K4.out.block pw hlW (fun e => e))).trans fV
      have cV4 := (K4.out.cell (p := ⟨pw, 4, none⟩) hlW (fun e => e)).trans HH.out.1
      have hl4 := Nat.lt_of_lt_of_le hlW K4.out.size
      have c54 := (K4.out.cell (p := ⟨pw, 5, none⟩) hlW (fun e => e)).trans HH.out.2
      have f54 : w4.frozen? ⟨pw, 5, none⟩ = false := blk_free (WD.out.plain K4.out).blk
      refine tl_ready (rs := [23]) (by kernel_rfl) (by simp) ?_
      refine AllT.cons rfl (fun K hK => ?_) AllT.nil
      go_simp
      refine hK.out _ _ (fun h => Bool.noConfusion (show true = false from h)) ?_
      clear hK K
      refine tl_done (by kernel_rfl) ?_ _
      refine NoPanic.normal ?_
      go_wp2
      go_ret
      have er : row h3 (L1 ++ [(i, key, nx)]) = [] ++ row h3 L1 ++ row h3 [(i, key, nx)] := by rw [row_append]; simp
      have el : (L1 ++ [(i, key, nx)]).length = n4 := by rw [← HN4.out]; simp
      have W4 := WD.out.plain K4.out
      have LZ : Lz (fun b => ¬ G b ∧ b ≠ pw) w4 (.slice va4 n4 vc4) (L1 ++ [(i, key, nx)]) := Lz.of_own (base := W.heap.size) (by rw [er, el]; exact O4.out) (fun b hb _ => ⟨fun z => by have := WD.out.is.lt b z; omega, by omega⟩)
      have kk1 := kept_pw w4 pw 4 (.slice va4 n4 vc4)
      have W5 := W4.wrote (v1' := .slice va4 n4 vc4) kk1 (by have b1 := blk_set (j := 4) (u := .slice va4 n4 vc4) W4.blk; simp at b1; exact b1) (W4.l0.kept kk1 fun _ q => q.2) (LZ.kept kk1 fun _ q => q.2)
      have kk2 := kept_pw (w4.setCell ⟨pw, 4, none⟩ (.slice va4 n4 vc4)) pw 5 (.int .i64 (nx + 1))
      have W6 := W5.wrote (nx' := nx + 1) kk2 (by have b1 := blk_set (j := 5) (u := .int .i64 (nx + 1)) W5.blk; simp at b1; exact b1) (W5.l0.kept kk2 fun _ q => q.2) (W5.l1.kept kk2 fun _ q => q.2)
      rw [HRT.out] at W6
      exact ⟨rfl, i, G, pa, pm, _, _, _, _, _, sp2, mo2, W6, HIN.out.swap, by have : s3.steps ≤ q + 8 + 18 * (u.rank + 2) := ST.out; have := RK.out; have := HQ.out; have := ST1.out; have := HKK.out; omega, MO.out⟩
  · go_simp
    go_wp2_with fail
    refine hK.out _ _ (fun _ => ⟨(((Kept.refl (fun _ => False) W).alloc _).cell (p := ⟨pw, 4, none⟩) hlW (fun e => e)).trans HH.out.1, (((Kept.refl (fun _ => False) W).alloc _).cell (p := ⟨pw, 5, none⟩) hlW (fun e => e)).trans HH.out.2⟩) ?_
    clear hK K
    refine tl_ready (rs := [2]) (by kernel_rfl) (by simp) ?_
    refine AllT.cons rfl (fun K hK => ?_) AllT.nil
    go_simp
    go_wp2_with fail
    refine hK.out _ _ (fun _ => ⟨((((Kept.refl (fun _ => False) W).alloc _).alloc _).cell (p := ⟨pw, 4, none⟩) hlW (fun e => e)).trans HH.out.1, ((((Kept.refl (fun _ => False) W).alloc _).alloc _).cell (p := ⟨pw, 5, none⟩) hlW (fun e => e)).trans HH.out.2⟩) ?_
    clear hK K
    refine tl_ready (rs := [9]) (by kernel_rfl) (by simp) ?_
    refine AllT.cons rfl (fun K hK => ?_) AllT.nil
    refine step_append_sz rfl (.tmp 114) (.tmp 120) rfl W.heap.size W.heap.size _ _ 0 [] L1 rfl rfl (by exact lit3N (W.alloc _) (W.heap.size + 1) (by simp) (by omega)) (by exact S1.out.kept (((Kept.refl (fun _ => False) W).alloc _).alloc _).plain0) (by have := HLN.out; omega) (by simp <;> omega) ?_
    intro v3 w3 o3 g3
    have K3 := hid ((((Kept.refl (fun _ => False) W).alloc _).alloc _).grown g3 (fun k hk => Or.inr (by cases hk; simp <;> omega)))
    have XX := hid (((Sz.one W (i, key, nx)).kept (((Kept.refl (fun _ => False) (W.alloc _)).alloc _).below (by simp) (fun _ e => e.elim))).grown g3 (by simp <;> omega) (by intro hk; have := Option.some.inj hk; simp at this))
    have O3 := hid o3
    clear o3 g3
    go_wp2_with fail
    refine hK.out _ _ (fun _ => ⟨(K3.out.cell (p := ⟨pw, 4, none⟩) hlW (fun e => e)).trans HH.out.1, (K3.out.cell (p := ⟨pw, 5, none⟩) hlW (fun e => e)).trans HH.out.2⟩) ?_
    clear hK K
    refine tl_ready (rs := [19]) (by kernel_rfl) (by simp) ?_
    refine AllT.cons rfl (fun K hK => ?_) AllT.nil
    refine step_append_sz rfl (.tmp 121) (.tmp 130) rfl W.heap.size _ v3 _ (0 + L1.length) ([] ++ row h3 L1) [(i, key, nx)] rfl rfl (by exact O3.out) (by exact XX.out) (by have := HLN.out; show 0 + L1.length + 1 ≤ 1000000; omega) (by exact K3.out.size) ?_
    intro v4 w4 o4 g4
    have K4 := hid (K3.out.grown g4 (fun k hk => Or.inr (O3.out.lt k hk).1))
    have O4 := hid o4
    obtain ⟨va4, vc4, rfl⟩ := own_form o4
    clear o4 g4
    generalize hn4 : 0 + L1.length + [(i, key, nx)].length = n4 at *
    have HN4 := hid hn4
    clear hn4
    go_wp2_with fail
    refine hK.out _ _ (fun _ => ⟨(K4.out.cell (p := ⟨pw, 4, none⟩) hlW (fun e => e)).trans HH.out.1, (K4.out.cell (p := ⟨pw, 5, none⟩) hlW (fun e => e)).trans HH.out.2⟩) ?_
    clear hK K
    have hHeld : w4.cell? ⟨pw, 4, none⟩ = some (.slice va len vc) ∧ w4.cell? ⟨pw, 5, none⟩ = some (.int .i64 nx) := ⟨(K4.out.cell (p := ⟨pw, 4, none⟩) hlW (fun e => e)).trans HH.out.1, (K4.out.cell (p := ⟨pw, 5, none⟩) hlW (fun e => e)).trans HH.out.2⟩
    refine tl_take 22 134 (.pointer (some ⟨pw, 4, none⟩)) rfl rfl (by kernel_rfl) (by kernel_rfl) (by kernel_rfl) (fun _ _ _ h => h) (by decide) (by kernel_rfl) (by kernel_rfl) (by rfl) (fun wS hS => by (try dsimp only at hS); go_split_ands; go_simp) (by assumption) ?_
    simp only [Act.put, List.setIfInBounds_toArray]
    clear hHeld
    have fV4 : w4.frozen? ⟨pw, 4, none⟩ = false := (World.frozen?_of_block (K4.out.block pw hlW (fun e => e))).trans fV
    have cV4 := (K4.out.cell (p := ⟨pw, 4, none⟩) hlW (fun e => e)).trans HH.out.1
    have hl4 := Nat.lt_of_lt_of_le hlW K4.out.size
    have c54 := (K4.out.cell (p := ⟨pw, 5, none⟩) hlW (fun e => e)).trans HH.out.2
    have f54 : w4.frozen? ⟨pw, 5, none⟩ = false := blk_free (WD.out.plain K4.out).blk
    refine tl_ready (rs := [23]) (by kernel_rfl) (by simp) ?_
    refine AllT.cons rfl (fun K hK => ?_) AllT.nil
    go_simp
    refine hK.out _ _ (fun h => Bool.noConfusion (show true = false from h)) ?_
    clear hK K
    refine tl_done (by kernel_rfl) ?_ _
    refine NoPanic.normal ?_
    go_wp2
    go_ret
    have er : row h3 (L1 ++ [(i, key, nx)]) = [] ++ row h3 L1 ++ row h3 [(i, key, nx)] := by rw [row_append]; simp
    have el : (L1 ++ [(i, key, nx)]).length = n4 := by rw [← HN4.out]; simp
    have W4 := WD.out.plain K4.out
    have LZ : Lz (fun b => ¬ G b ∧ b ≠ pw) w4 (.slice va4 n4 vc4) (L1 ++ [(i, key, nx)]) := Lz.of_own (base := W.heap.size) (by rw [er, el]; exact O4.out) (fun b hb _ => ⟨fun z => by have := WD.out.is.lt b z; omega, by omega⟩)
    have kk1 := kept_pw w4 pw 4 (.slice va4 n4 vc4)
    have W5 := W4.wrote (v1' := .slice va4 n4 vc4) kk1 (by have b1 := blk_set (j := 4) (u := .slice va4 n4 vc4) W4.blk; simp at b1; exact b1) (W4.l0.kept kk1 fun _ q => q.2) (LZ.kept kk1 fun _ q => q.2)
    have kk2 := kept_pw (w4.setCell ⟨pw, 4, none⟩ (.slice va4 n4 vc4)) pw 5 (.int .i64 (nx + 1))
    have W6 := W5.wrote (nx' := nx + 1) kk2 (by have b1 := blk_set (j := 5) (u := .int .i64 (nx + 1)) W5.blk; simp at b1; exact b1) (W5.l0.kept kk2 fun _ q => q.2) (W5.l1.kept kk2 fun _ q => q.2)
    rw [HRT.out] at W6
    exact ⟨rfl, i, G, pa, pm, _, _, _, _, _, sp2, mo2, W6, HIN.out.swap, by have : s3.steps ≤ q + 8 + 18 * (u.rank + 2) := ST.out; have := RK.out; have := HQ.out; have := ST1.out; have := HKK.out; omega, MO.out⟩
end Go.Proofs.YtnkpopeahmjodaaGreat
