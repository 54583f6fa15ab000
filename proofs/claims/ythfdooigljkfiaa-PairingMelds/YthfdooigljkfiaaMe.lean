/- The laws' meld into the first heap. -/
import Derived.Test.YthfdooigljkfiaaLt
import Derived.Test.YthfdooigljkfiaaGl
namespace Go.Proofs.Ythfdooigljkfiaa
open Go.ChangeShapes Go.WideShapes Go.ChangeAt Go.RowKit
open Tr

set_option maxHeartbeats 8000000 in
set_option maxRecDepth 100000 in
theorem meld0 {w0 : Fm} {w : World} {pw N K : Nat} {L0 L1 : List (Nat × Int × Int)} {nx : Int} (h : Sit w0 w pw N K L0 L1 nx) (hl : L0.length + L1.length ≤ 700) (hK : K ≤ 90000000) :
    Calls Try.prog 15 #[.pointer (some ⟨pw, 0, none⟩), .int .i64 0] w fun e w' => e = .returned (.bool true) ∧ Sit w0 w' pw N (K + 1500) (L0 ++ L1) [] nx := by
  obtain ⟨F, pa, pm, v0, v1, s, t, u, sp, mo, hw, hi, hk, hm⟩ := h
  have b20 := bts_le 16 (L0.length + L1.length) (by omega)
  have B11 := hid (bts_le 11 (L0.length + L1.length) (by omega))
  have MD := hid (fun w1 (k1 : Kept (fun _ => False) w w1) => meldC hi (by omega) ((Ex.start hw.is).plain k1))
  have HW := hid hw
  have HKK := hid hk
  have HM := hid hm
  have M := hid (meterA pa pm s F w hw.is)
  have T := hid (stepsA pa pm s F w hw.is)
  obtain ⟨va, vc, e0⟩ := hw.l0.form
  obtain ⟨vb, vd, e1⟩ := hw.l1.form
  subst e0 e1
  obtain ⟨c0, c1, c2, c3, c4, c5, c6, c7, cf⟩ := hw.cells
  have hlt := hw.lt
  have hout := hid hw.out
  obtain ⟨n0, hn0⟩ : ∃ n, n = L0.length := ⟨_, rfl⟩
  obtain ⟨n1, hn1⟩ : ∃ n, n = L1.length := ⟨_, rfl⟩
  have HN0 := hid hn0
  have HN1 := hid hn1
  rw [← hn0, ← hn1] at hl b20 B11 MD
  obtain ⟨mm, hmm⟩ : ∃ mm : Nat, (n0 : Int) + (n1 : Int) = (mm : Int) := ⟨n0 + n1, by omega⟩
  have HMM := hid (show mm = n0 + n1 by omega)
  rw [← HMM.out] at b20 B11 MD
  have HM4 := hid (show mm ≤ 700 by omega)
  have hw1 : IntKind.i64.wrap (mm : Int) = (mm : Int) := IntWalk.i64_in _ (by omega)
  obtain ⟨q, hq⟩ : ∃ q, q = s.steps := ⟨_, rfl⟩
  rw [← hq] at T
  have HQ := hid hq
  have hq1 : q ≤ 90000000 := by omega
  clear hw hi hk hm hn0 hn1 hq c3 c4 c5 c6 c7 cf
  have h10 : (1 : Int) - 0 = 1 := by decide
  have h10w : IntKind.i64.wrap 1 = 1 := by decide
  go_enter Try.func15, Try.ntmps15
  go_wp2_with fail
  refine M.out.mono ?_
  rintro e wA ⟨rfl, rfl⟩
  go_wp2_with fail
  refine T.out.mono ?_
  rintro e wB ⟨rfl, rfl⟩
  clear M T
  go_wp2_with fail
  go_region_held3 (fun w' => w'.cell? ⟨pw, 0, none⟩ = some (.pointer (some ⟨pa, 0, none⟩)) ∧ w'.cell? ⟨pw, 1, none⟩ = some (.int .i64 (headr t)) ∧ w'.cell? ⟨pw, 2, none⟩ = some (.int .i64 (headr u))) (first | exact ⟨c0, c1, c2⟩ | (simp [go_sem]; exact ⟨c0, c1, c2⟩))
    (first
      | (go_at_call 38; refine (MD.out _ (by first | exact Kept.refl _ _ | exact (Kept.refl _ _).drew | exact (Kept.refl _ _).drewN _)).mono ?_; rintro e w3 ⟨t', s3, rfl, e3, i3, m3, st1, st2⟩; have HIN := hid i3; have MO := hid (m3.trans HM.out); have ST2 := hid st1; have ST := hid st2; clear i3 m3 st1 st2; replace c0 := (e3.kept.cell (p := ⟨pw, 0, none⟩) hlt hout.out).trans c0; replace c1 := (e3.kept.cell (p := ⟨pw, 1, none⟩) hlt hout.out).trans c1; replace c2 := (e3.kept.cell (p := ⟨pw, 2, none⟩) hlt hout.out).trans c2; have E3 := hid e3; clear e3))
  generalize hrt : headr t' = m at *
  have HRT := hid hrt.symm
  rw [← HQ.out] at ST ST2
  clear hrt MD
  have W3 := hid (HW.out.ex E3.out)
  clear c0 c1 c2 HW E3
  rw [← HN0.out, ← HN1.out] at W3
  obtain ⟨c0, c1, c2, c3, c4, c5, c6, c7, cf⟩ := W3.out.cells
  have hlt3 := W3.out.lt
  have CO := hid (fun w1 (k1 : Kept (fun _ => False) w3 w1) => costW mm q sp mo (by have := HM4.out; omega) (W3.out.plain k1) ST2.out (by have := ST.out; have := HKK.out; have := HQ.out; have := B11.out; omega) (by have := HKK.out; omega) (by have := ST.out; have := HKK.out; have := HQ.out; have := B11.out; omega))
  clear c0 c1 c2 c5 c6 c7 cf
  go_wp2_with fail
  go_region_held3 (fun w' => w'.cell? ⟨pw, 3, none⟩ = some (.slice va n0 vc) ∧ w'.cell? ⟨pw, 4, none⟩ = some (.slice vb n1 vd)) (first | exact ⟨c3, c4⟩ | (simp [go_sem]; exact ⟨c3, c4⟩))
    (first
      | (go_at_call 22; refine (CO.out _ (by first | exact Kept.refl _ _ | exact (Kept.refl _ _).drew | exact (Kept.refl _ _).drewN _)).mono ?_; rintro e w4 ⟨rfl, sp2, mo2, hs2, hm2, h4⟩; have HS2 := hid hs2; have HM2 := hid hm2; clear hs2 hm2; replace c3 := h4.cells.2.2.2.1; replace c4 := h4.cells.2.2.2.2.1; have W4 := hid h4; clear h4))
  clear CO W3 hlt3 hmm hw1
  obtain ⟨_, c1, c2, _, _, _, _, _, cf⟩ := W4.out.cells
  have hlt4 := W4.out.lt
  have f1 := cf 1
  have f2 := cf 2
  clear cf c3 c4
  go_wp2_with fail
  go_region
  have kk := ((kept_pw w4 pw 1 (.int .i64 m)).trans' (kept_pw _ pw 2 (.int .i64 (-1)))).drew
  have HC : Hid (Wx w0 ((w4.setCell ⟨pw, 1, none⟩ (.int .i64 m)).setCell ⟨pw, 2, none⟩ (.int .i64 (-1))).drew F pw pa pm (.slice va n0 vc) (.slice vb n1 vd) s3 m (-1) L0 L1 nx (sp2 : Int) (mo2 : Int)) := W4.out.wrote (r0' := m) (r1' := -1) kk (by have b1 := blk_set (j := 2) (u := .int .i64 (-1)) (blk_set (j := 1) (u := .int .i64 m) W4.out.blk); simp at b1; exact b1) (W4.out.l0.kept kk fun _ q => q.2) (W4.out.l1.kept kk fun _ q => q.2)
  clear kk W4 c1 c2 f1 f2 hlt4
  generalize ((w4.setCell ⟨pw, 1, none⟩ (.int .i64 m)).setCell ⟨pw, 2, none⟩ (.int .i64 (-1))).drew = wC at *
  obtain ⟨_, _, _, d3, d4, _, _, _, _⟩ := HC.out.cells
  have hlC := HC.out.lt
  go_wp2_with fail
  refine wp_region_noPanic ?_
  refine tl_begin (S := (fun w' => w'.cell? ⟨pw, 3, none⟩ = some (.slice va n0 vc) ∧ w'.cell? ⟨pw, 4, none⟩ = some (.slice vb n1 vd))) 24 (by kernel_rfl) ?_
  have hHeld : wC.drew.cell? ⟨pw, 3, none⟩ = some (.slice va n0 vc) ∧ wC.drew.cell? ⟨pw, 4, none⟩ = some (.slice vb n1 vd) := ⟨d3, d4⟩
  have WD : Hid (Wx w0 wC.drew F pw pa pm (.slice va n0 vc) (.slice vb n1 vd) s3 m (-1) L0 L1 nx (sp2 : Int) (mo2 : Int)) := HC.out.drewN 1
  have hlW : pw < wC.drew.heap.size := hlC
  have S1 := hid (show Sz wC.drew.heap.size wC.drew (.slice va n0 vc) L0 from WD.out.l0.src)
  have S2 := hid (show Sz wC.drew.heap.size wC.drew (.slice vb n1 vd) L1 from WD.out.l1.src)
  have HH := hid hHeld
  clear HC d3 d4 hlC
  generalize wC.drew = W at *
  refine tl_any 0 60 (.pointer (some ⟨pw, 0, none⟩)) rfl rfl (by kernel_rfl) (by kernel_rfl) (by kernel_rfl) (fun _ _ _ h => h) (by decide) (by rfl) (fun wS => by go_simp) (by assumption) ?_
  simp only [Act.put, List.setIfInBounds_toArray, List.set_cons_zero, List.set_cons_succ]
  refine tl_any 1 61 (.int .i64 0) rfl rfl (by kernel_rfl) (by kernel_rfl) (by kernel_rfl) (fun _ _ _ h => h) (by decide) (by rfl) (fun wS => by go_simp) (by assumption) ?_
  simp only [Act.put, List.setIfInBounds_toArray, List.set_cons_zero, List.set_cons_succ]
  refine tl_any 2 62 (.pointer (some ⟨pw, 0, none⟩)) rfl rfl (by kernel_rfl) (by kernel_rfl) (by kernel_rfl) (fun _ _ _ h => h) (by decide) (by rfl) (fun wS => by go_simp) (by assumption) ?_
  simp only [Act.put, List.setIfInBounds_toArray, List.set_cons_zero, List.set_cons_succ]
  refine tl_any 3 63 (.int .i64 0) rfl rfl (by kernel_rfl) (by kernel_rfl) (by kernel_rfl) (fun _ _ _ h => h) (by decide) (by rfl) (fun wS => by go_simp) (by assumption) ?_
  simp only [Act.put, List.setIfInBounds_toArray, List.set_cons_zero, List.set_cons_succ]
  refine tl_any 4 64 (.int .i64 1) rfl rfl (by kernel_rfl) (by kernel_rfl) (by kernel_rfl) (fun _ _ _ h => h) (by decide) (by rfl) (fun wS => by (first | (go_simp; done) | (go_simp; rfl) | (go_simp; decide) | rfl)) (by assumption) ?_
  simp only [Act.put, List.setIfInBounds_toArray, List.set_cons_zero, List.set_cons_succ]
  refine tl_any 6 66 (.pointer (some ⟨pw, 0, none⟩)) rfl rfl (by kernel_rfl) (by kernel_rfl) (by kernel_rfl) (fun _ _ _ h => h) (by decide) (by rfl) (fun wS => by go_simp) (by assumption) ?_
  simp only [Act.put, List.setIfInBounds_toArray, List.set_cons_zero, List.set_cons_succ]
  refine tl_any 7 67 (.int .i64 0) rfl rfl (by kernel_rfl) (by kernel_rfl) (by kernel_rfl) (fun _ _ _ h => h) (by decide) (by rfl) (fun wS => by go_simp) (by assumption) ?_
  simp only [Act.put, List.setIfInBounds_toArray, List.set_cons_zero, List.set_cons_succ]
  refine tl_any 8 68 (.pointer (some ⟨pw, 0, none⟩)) rfl rfl (by kernel_rfl) (by kernel_rfl) (by kernel_rfl) (fun _ _ _ h => h) (by decide) (by rfl) (fun wS => by go_simp) (by assumption) ?_
  simp only [Act.put, List.setIfInBounds_toArray, List.set_cons_zero, List.set_cons_succ]
  refine tl_any 9 69 (.pointer (some ⟨pw, 3, none⟩)) rfl rfl (by kernel_rfl) (by kernel_rfl) (by kernel_rfl) (fun _ _ _ h => h) (by decide) (by rfl) (fun wS => by go_simp) (by assumption) ?_
  simp only [Act.put, List.setIfInBounds_toArray, List.set_cons_zero, List.set_cons_succ]
  refine tl_any 10 70 (.pointer (some ⟨pw, 3, none⟩)) rfl rfl (by kernel_rfl) (by kernel_rfl) (by kernel_rfl) (fun _ _ _ h => h) (by decide) (by rfl) (fun wS => by (first | (go_simp; done) | (go_simp; rfl) | (go_simp; decide) | rfl)) (by assumption) ?_
  simp only [Act.put, List.setIfInBounds_toArray, List.set_cons_zero, List.set_cons_succ]
  refine tl_take 11 71 (.slice va n0 vc) rfl rfl (by kernel_rfl) (by kernel_rfl) (by kernel_rfl) (fun _ _ _ h => h) (by decide) (by kernel_rfl) (by kernel_rfl) (by rfl) (fun wS hS => by (try dsimp only at hS); go_split_ands; go_simp) (by assumption) ?_
  simp only [Act.put, List.setIfInBounds_toArray, List.set_cons_zero, List.set_cons_succ]
  refine tl_any 13 73 (.pointer (some ⟨pw, 0, none⟩)) rfl rfl (by kernel_rfl) (by kernel_rfl) (by kernel_rfl) (fun _ _ _ h => h) (by decide) (by rfl) (fun wS => by go_simp) (by assumption) ?_
  simp only [Act.put, List.setIfInBounds_toArray, List.set_cons_zero, List.set_cons_succ]
  refine tl_any 14 74 (.int .i64 0) rfl rfl (by kernel_rfl) (by kernel_rfl) (by kernel_rfl) (fun _ _ _ h => h) (by decide) (by rfl) (fun wS => by go_simp) (by assumption) ?_
  simp only [Act.put, List.setIfInBounds_toArray, List.set_cons_zero, List.set_cons_succ]
  refine tl_any 15 75 (.int .i64 1) rfl rfl (by kernel_rfl) (by kernel_rfl) (by kernel_rfl) (fun _ _ _ h => h) (by decide) (by rfl) (fun wS => by (first | (go_simp; done) | (go_simp; rfl) | (go_simp; decide) | rfl)) (by assumption) ?_
  simp only [Act.put, List.setIfInBounds_toArray, List.set_cons_zero, List.set_cons_succ]
  refine tl_any 16 76 (.pointer (some ⟨pw, 0, none⟩)) rfl rfl (by kernel_rfl) (by kernel_rfl) (by kernel_rfl) (fun _ _ _ h => h) (by decide) (by rfl) (fun wS => by go_simp) (by assumption) ?_
  simp only [Act.put, List.setIfInBounds_toArray, List.set_cons_zero, List.set_cons_succ]
  refine tl_any 17 77 (.pointer (some ⟨pw, 3, none⟩)) rfl rfl (by kernel_rfl) (by kernel_rfl) (by kernel_rfl) (fun _ _ _ h => h) (by decide) (by rfl) (fun wS => by go_simp) (by assumption) ?_
  simp only [Act.put, List.setIfInBounds_toArray, List.set_cons_zero, List.set_cons_succ]
  refine tl_any 18 78 (.pointer (some ⟨pw, 4, none⟩)) rfl rfl (by kernel_rfl) (by kernel_rfl) (by kernel_rfl) (fun _ _ _ h => h) (by decide) (by rfl) (fun wS => by (first | (go_simp; done) | (go_simp; rfl) | (go_simp; decide) | rfl)) (by assumption) ?_
  simp only [Act.put, List.setIfInBounds_toArray, List.set_cons_zero, List.set_cons_succ]
  refine tl_take 19 79 (.slice vb n1 vd) rfl rfl (by kernel_rfl) (by kernel_rfl) (by kernel_rfl) (fun _ _ _ h => h) (by decide) (by kernel_rfl) (by kernel_rfl) (by rfl) (fun wS hS => by (try dsimp only at hS); go_split_ands; go_simp) (by assumption) ?_
  simp only [Act.put, List.setIfInBounds_toArray, List.set_cons_zero, List.set_cons_succ]
  refine tl_any 21 81 (.pointer (some ⟨pw, 0, none⟩)) rfl rfl (by kernel_rfl) (by kernel_rfl) (by kernel_rfl) (fun _ _ _ h => h) (by decide) (by rfl) (fun wS => by go_simp) (by assumption) ?_
  simp only [Act.put, List.setIfInBounds_toArray, List.set_cons_zero, List.set_cons_succ]
  refine tl_any 22 82 (.pointer (some ⟨pw, 3, none⟩)) rfl rfl (by kernel_rfl) (by kernel_rfl) (by kernel_rfl) (fun _ _ _ h => h) (by decide) (by rfl) (fun wS => by go_simp) (by assumption) ?_
  simp only [Act.put, List.setIfInBounds_toArray, List.set_cons_zero, List.set_cons_succ]
  refine tl_any 25 84 (.pointer (some ⟨pw, 0, none⟩)) rfl rfl (by kernel_rfl) (by kernel_rfl) (by kernel_rfl) (fun _ _ _ h => h) (by decide) (by rfl) (fun wS => by go_simp) (by assumption) ?_
  simp only [Act.put, List.setIfInBounds_toArray, List.set_cons_zero, List.set_cons_succ]
  refine tl_any 26 85 (.pointer (some ⟨pw, 3, none⟩)) rfl rfl (by kernel_rfl) (by kernel_rfl) (by kernel_rfl) (fun _ _ _ h => h) (by decide) (by rfl) (fun wS => by go_simp) (by assumption) ?_
  simp only [Act.put, List.setIfInBounds_toArray, List.set_cons_zero, List.set_cons_succ]
  clear hHeld
  refine tl_ready (rs := [5]) (by kernel_rfl) (by simp) ?_
  refine AllT.cons rfl (fun K hK => ?_) AllT.nil
  go_simp
  go_wp2_with fail
  refine hK.out _ _ (fun _ => ⟨(((Kept.refl (fun _ => False) W).alloc _).cell (p := ⟨pw, 3, none⟩) hlW (fun e => e)).trans HH.out.1, (((Kept.refl (fun _ => False) W).alloc _).cell (p := ⟨pw, 4, none⟩) hlW (fun e => e)).trans HH.out.2⟩) ?_
  clear hK K
  refine tl_ready (rs := [12]) (by kernel_rfl) (by simp) ?_
  refine AllT.cons rfl (fun K hK => ?_) AllT.nil
  refine step_append_sz rfl (.tmp 65) (.tmp 71) rfl W.heap.size W.heap.size _ _ 0 [] L0 rfl rfl (by exact lit3 W (Nat.le_refl _)) (by exact S1.out.kept ((Kept.refl (fun _ => False) W).alloc _).plain0) (by have := HN0.out; omega) (by simp <;> omega) ?_
  intro v3 w3 o3 g3
  have K3 := hid (((Kept.refl (fun _ => False) W).alloc _).grown g3 (fun k hk => Or.inr (by cases hk; simp <;> omega)))
  have O3 := hid o3
  clear o3 g3
  go_wp2_with fail
  refine hK.out _ _ (fun _ => ⟨(K3.out.cell (p := ⟨pw, 3, none⟩) hlW (fun e => e)).trans HH.out.1, (K3.out.cell (p := ⟨pw, 4, none⟩) hlW (fun e => e)).trans HH.out.2⟩) ?_
  clear hK K
  refine tl_ready (rs := [20]) (by kernel_rfl) (by simp) ?_
  refine AllT.cons rfl (fun K hK => ?_) AllT.nil
  refine step_append_sz rfl (.tmp 72) (.tmp 79) rfl W.heap.size W.heap.size v3 _ (0 + L0.length) ([] ++ row h3 L0) L1 rfl rfl (by exact O3.out) (by exact S2.out.kept K3.out.plain0) (by have := HN0.out; have := HN1.out; omega) (by exact K3.out.size) ?_
  intro v4 w4 o4 g4
  have K4 := hid (K3.out.grown g4 (fun k hk => Or.inr (O3.out.lt k hk).1))
  have O4 := hid o4
  obtain ⟨va4, vc4, rfl⟩ := own_form o4
  clear o4 g4
  generalize hn4 : 0 + L0.length + L1.length = n4 at *
  have HN4 := hid hn4
  clear hn4
  go_wp2_with fail
  refine hK.out _ _ (fun _ => ⟨(K4.out.cell (p := ⟨pw, 3, none⟩) hlW (fun e => e)).trans HH.out.1, (K4.out.cell (p := ⟨pw, 4, none⟩) hlW (fun e => e)).trans HH.out.2⟩) ?_
  clear hK K
  have hHeld : w4.cell? ⟨pw, 3, none⟩ = some (.slice va n0 vc) ∧ w4.cell? ⟨pw, 4, none⟩ = some (.slice vb n1 vd) := ⟨(K4.out.cell (p := ⟨pw, 3, none⟩) hlW (fun e => e)).trans HH.out.1, (K4.out.cell (p := ⟨pw, 4, none⟩) hlW (fun e => e)).trans HH.out.2⟩
  refine tl_any 23 83 (.pointer (some ⟨pw, 3, none⟩)) rfl rfl (by kernel_rfl) (by kernel_rfl) (by kernel_rfl) (fun _ _ _ h => h) (by decide) (by rfl) (fun wS => by (first | (go_simp; done) | (go_simp; rfl) | (go_simp; decide) | rfl)) (by assumption) ?_
  simp only [Act.put, List.setIfInBounds_toArray]
  obtain ⟨c34, c44⟩ := hHeld
  have W4 := hid (WD.out.plain K4.out)
  have hl4 := W4.out.lt
  have f34 := W4.out.cells.2.2.2.2.2.2.2.2 3
  have f44 := W4.out.cells.2.2.2.2.2.2.2.2 4
  refine tl_ready (rs := [24]) (by kernel_rfl) (by simp) ?_
  refine AllT.cons rfl (fun K hK => ?_) AllT.nil
  go_simp
  refine hK.out _ _ (fun h => Bool.noConfusion (show true = false from h)) ?_
  clear hK K
  refine tl_ready (rs := [27]) (by kernel_rfl) (by simp) ?_
  refine AllT.cons rfl (fun K hK => ?_) AllT.nil
  go_simp
  refine hK.out _ _ (fun h => Bool.noConfusion (show true = false from h)) ?_
  clear hK K
  refine tl_ready (rs := [28]) (by kernel_rfl) (by simp) ?_
  refine AllT.cons rfl (fun K hK => ?_) AllT.nil
  go_simp
  refine hK.out _ _ (fun h => Bool.noConfusion (show true = false from h)) ?_
  clear hK K
  refine tl_done (by kernel_rfl) ?_ _
  refine NoPanic.normal ?_
  go_wp2
  go_ret
  have er : row h3 (L0 ++ L1) = [] ++ row h3 L0 ++ row h3 L1 := by rw [row_append]; simp
  have el : (L0 ++ L1).length = n4 := by rw [← HN4.out]; simp
  have LZ : Lz (fun b => ¬ F b ∧ b ≠ pw) w4 (.slice va4 n4 vc4) (L0 ++ L1) := Lz.of_own (base := W.heap.size) (by rw [er, el]; exact O4.out) (fun b hb _ => ⟨fun z => by have := WD.out.is.lt b z; omega, by omega⟩)
  have kk1 := (kept_pw w4 pw 3 (.slice va4 n4 vc4)).trans' (kept_pw _ pw 4 (.slice none 0 0))
  have W6 := W4.out.wrote (v0' := .slice va4 n4 vc4) (v1' := .slice none 0 0) (L1' := []) kk1 (by have b1 := blk_set (j := 4) (u := .slice none 0 0) (blk_set (j := 3) (u := .slice va4 n4 vc4) W4.out.blk); simp at b1; exact b1) (LZ.kept kk1 fun _ q => q.2) (Lz.nil _ _)
  rw [HRT.out] at W6
  exact ⟨rfl, F, pa, pm, _, _, _, t', nilQ, sp2, mo2, W6, HIN.out, by have := ST.out; have := HKK.out; have := HQ.out; have := ST2.out; have := HS2.out; have := HM2.out; have := B11.out; omega, MO.out⟩
end Go.Proofs.Ythfdooigljkfiaa
