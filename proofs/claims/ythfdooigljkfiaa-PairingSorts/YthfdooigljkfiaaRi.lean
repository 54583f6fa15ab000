/- The laws' right: both heaps tell what they hold, and have the shape. -/
import Derived.Test.YthfdooigljkfiaaSh
import Derived.Test.YthfdooigljkfiaaSi
import Derived.Test.YthfdooigljkfiaaCe
namespace Go.Proofs.Ythfdooigljkfiaa
open Go.ChangeShapes Go.WideShapes Go.ChangeAt Go.RowKit
open Tr

set_option maxHeartbeats 8000000 in
set_option maxRecDepth 100000 in
theorem rightW {w0 : Fm} {w : World} {F : Nat → Prop} {pw pa pm : Nat} {v0 v1 : Value} {s : St} {t u : Tr} {L0 L1 : List (Nat × Int × Int)} {nx : Int} (sp mo pp : Nat) (h : Wx w0 w F pw pa pm v0 v1 s (headr t) (headr u) L0 L1 nx (sp : Int) (mo : Int)) (hi : Inv s t u L0 L1) (hl0 : L0.length ≤ 700) (hl1 : L1.length ≤ 700) (hs : s.steps ≤ 60000000) (hsp : sp + pp ≤ mo) (hmo : mo ≤ 90000000000) :
    Calls Try.prog 14 #[.pointer (some ⟨pw, 0, none⟩)] w fun e w' => e = .returned (.bool true) ∧ ∃ k sp' mo' : Nat, k ≤ 86000 ∧ sp' + pp ≤ mo' ∧ mo' ≤ mo + 10000 ∧ Wx w0 w' F pw pa pm v0 v1 (tk s k) (headr t) (headr u) L0 L1 nx (sp' : Int) (mo' : Int) := by
  obtain ⟨va0, vc0, e0⟩ := h.l0.form
  obtain ⟨va1, vc1, e1⟩ := h.l1.form
  subst e0 e1
  have HW := hid h
  have HI := hid hi
  have LN := hid (fun n => lenA pa pm s F (w.drewN n) (h.is.drewN n))
  rw [hi.num] at LN
  obtain ⟨c0, c1, c2, c3, c4, c5, c6, c7, cf⟩ := h.cells
  have hlt := h.lt
  obtain ⟨n0, hn0⟩ : ∃ n, n = L0.length := ⟨_, rfl⟩
  obtain ⟨n1, hn1⟩ : ∃ n, n = L1.length := ⟨_, rfl⟩
  have HN0 := hid hn0
  have HN1 := hid hn1
  rw [← hn0] at LN c3 hl0 HW
  rw [← hn1] at LN c4 hl1 HW
  obtain ⟨mm, hmm⟩ : ∃ mm : Nat, (n0 : Int) + (n1 : Int) = (mm : Int) := ⟨n0 + n1, by omega⟩
  obtain ⟨cc, hcc⟩ : ∃ cc : Nat, (2 : Int) * (mm : Int) = (cc : Int) := ⟨2 * mm, by omega⟩
  have hw1 : IntKind.i64.wrap (mm : Int) = (mm : Int) := IntWalk.i64_in _ (by omega)
  have hw2 : IntKind.i64.wrap (cc : Int) = (cc : Int) := IntWalk.i64_in _ (by omega)
  rw [show 2 * (n0 + n1) = cc by omega] at LN
  clear h hi hn0 hn1 c1 c2 c5 c6 c7 cf
  go_enter Try.func14, Try.ntmps14
  go_wp2_with fail
  go_quiet
    (first
      | (go_at_call 12; refine Calls.quiet_of (LN.out _)))
  go_wp2_with fail
  go_loopw [3, 4, 5, 6] (fun hv _ _ _ wr => ∃ (g kz sp' mo' : Nat), hv = .int .i64 g ∧ g ≤ 2 ∧ kz ≤ 43000 * g ∧ sp' + pp ≤ mo' ∧ mo' ≤ mo + 5000 * g ∧ Wx w0 wr F pw pa pm (.slice va0 n0 vc0) (.slice va1 n1 vc1) (tk s kz) (headr t) (headr u) L0 L1 nx (sp' : Int) (mo' : Int)) (fun g _ _ _ _ => 2 - (intOf g).toNat)
  case atStart => exact ⟨0, 0, sp, mo, rfl, by omega, by omega, hsp, by omega, HW.out.drewN _⟩
  case round =>
    obtain ⟨g, kz, sp', mo', rfl, hg, hk, hsp', hmo', hw⟩ := hrel
    clear c0 c3 c4 LN hmm hcc hw1 hw2 HW
    rcases (show g = 0 ∨ g = 1 ∨ g = 2 by omega) with rfl | rfl | rfl
    · rcases Classical.em (t = nilQ) with ht | ht
      · have HW := hid hw
        have HI2 := hid (HI.out.tk kz)
        obtain ⟨c0, c1, c2, c3, c4, c5, c6, c7, cf⟩ := hw.cells
        have hlt := hw.lt
        have M := hid (meterA pa pm (tk s kz) F wr hw.is)
        have T := hid (stepsA pa pm (tk s kz) F wr hw.is)
        have NFp := hid hw.out
        have hll : n0 ≤ 700 := hl0
        have WZ := hid (show L0.length = n0 from HN0.out.symm)
        have GD := hid HI2.out.a
        have TS := hid (fun s' => (show (its s' t).length ≤ 700 by unfold its; rw [size_items, GD.out.len, WZ.out]; exact hll))
        obtain ⟨q, hq⟩ : ∃ q, q = (tk s kz).steps := ⟨_, rfl⟩
        rw [← hq] at T
        have HQ := hid hq
        have hq1 : q ≤ 60090000 := by rw [hq]; show s.steps + kz ≤ _; omega
        have MI := hid (fun w1 (k1 : Kept (fun _ => False) wr w1) => (minC HI2.out (by show s.steps + kz ≤ _; omega) ((Ex.start hw.is).plain k1)).mono fun e w' h => (show e = .returned (.int .i64 (-1)) ∧ ∃ k, k ≤ 200 ∧ Ex F wr w' pa pm (tk (tk s kz) k) from by
          obtain ⟨m, he, h1, h2, k, hk, hx'⟩ := h
          exact ⟨by rw [he, h1 (GD.out.none.1 ht)], k, hk, hx'⟩))
        clear hw c5 c6 c7 cf hq
        obtain ⟨len, hlen⟩ : ∃ len, len = n0 := ⟨_, rfl⟩
        rw [← hlen] at c3 hll WZ HW
        have HLE := hid hlen
        have hz0 : len = 0 := by have h1 := GD.out.none.1 ht; have h2 := WZ.out; rw [h1] at h2; exact h2.symm
        have HRT := hid (show (headr t) = -1 by rw [ht]; rfl)
        subst hz0
        clear ht
        clear hlen
        go_wp2_with fail
        refine M.out.mono ?_
        rintro e wA ⟨rfl, rfl⟩
        go_wp2_with fail
        refine T.out.mono ?_
        rintro e wB ⟨rfl, rfl⟩
        clear M T
        go_wp2_with fail
        go_region_held3 (fun w' => w'.cell? ⟨pw, 0, none⟩ = some (.pointer (some ⟨pa, 0, none⟩)) ∧ w'.cell? ⟨pw, 1, none⟩ = some (.int .i64 (headr t))) (first | exact ⟨c0, c1⟩ | (simp [go_sem]; exact ⟨c0, c1⟩))
          (first
            | (go_at_call 8; refine (MI.out _ (by first | exact Kept.refl _ _ | exact (Kept.refl _ _).drew | exact (Kept.refl _ _).drewN _)).mono ?_; rintro e w3 ⟨rfl, k1, hk1, e3⟩; replace c0 := (e3.kept.cell (p := ⟨pw, 0, none⟩) hlt NFp.out).trans c0; replace c1 := (e3.kept.cell (p := ⟨pw, 1, none⟩) hlt NFp.out).trans c1; have E3 := hid e3; clear e3))
        have W3 := hid (HW.out.ex E3.out)
        have hwm : IntKind.i64.wrap (n1 : Int) = (n1 : Int) := IntWalk.i64_in _ (by omega)
        have BM := bts_le 11 n1 (by omega)
        have C := hid (fun w1 (k1' : Kept (fun _ => False) w3 w1) => costW n1 q sp' mo' (by omega) (W3.out.plain k1') (by rw [HQ.out]; show _ ≤ s.steps + kz + k1; show s.steps + kz ≤ _; omega) (by show s.steps + kz + k1 ≤ _; omega) (by omega) (by have h1 : q = s.steps + kz := HQ.out; show sp' + (s.steps + kz + k1) ≤ _; omega))
        clear c0 c1 c2 c3 c4 MI E3 HW
        obtain ⟨_, _, _, c3, c4, _, _, _, _⟩ := W3.out.cells
        have hlt3 := W3.out.lt
        go_wp2_with fail
        go_region_held3 (fun w' => w'.cell? ⟨pw, 3, none⟩ = some (.slice va0 0 vc0) ∧ w'.cell? ⟨pw, 4, none⟩ = some (.slice va1 n1 vc1)) (first | exact ⟨c3, c4⟩)
          (first
            | (go_at_call 22; refine (C.out _ (by first | exact Kept.refl _ _ | exact (Kept.refl _ _).drew | exact (Kept.refl _ _).drewN _)).mono ?_; rintro e wC ⟨rfl, sp2, mo2, hs2, hm2, hC⟩; replace c3 := hC.cells.2.2.2.1; replace c4 := hC.cells.2.2.2.2.1; have HC0 := hid hC; have HS2 := hid hs2; have HM2 := hid hm2; clear hs2 hm2 hC))
        have hC := HC0.out
        have hs2 := HS2.out
        have hm2 := HM2.out
        clear HC0 HS2 HM2 c3 c4 hlt3 hwm
        have hs3 : sp2 + q = sp' + (s.steps + kz + k1) := hs2
        have hq3 : q = s.steps + kz := HQ.out
        have hsp2 : sp2 + pp ≤ mo2 := by omega
        have hmo2 : mo2 ≤ mo' + 5000 := by omega
        clear hs2 hm2 hs3 hq3 BM
        obtain ⟨k2, hk2⟩ : ∃ k2, k2 = k1 := ⟨_, rfl⟩
        subst hk2
        have HC := hid hC
        have HIC := hid (HI2.out.tk k2)
        obtain ⟨d0, d1, d2, _, _, _, _, _, _⟩ := hC.cells
        have hlC := hC.lt
        have LZ := hid hC.l0
        have AL := hid (fun w1 (k1 : Kept (fun _ => False) wC w1) => allC HIC.out (by have := WZ.out; omega) ((Ex.start hC.is).plain k1).is (by show s.steps + kz + k2 ≤ _; omega))
        have CE := hid (fun w1 (lz : Lz (fun b => ¬ F b ∧ b ≠ pw) w1 _ L0) => cellsH (.slice va0 0 vc0) L0 w1 lz (by have := WZ.out; omega))
        rw [HRT.out] at AL d1
        clear hC C W3
        replace d1 : wC.cell? ⟨pw, 1, none⟩ = some (.int .i64 (-1)) := d1
        have dR := d1
        clear d1 d2
        go_upto_region 11 with fail
        refine wp_region_noPanic ?_
        refine wp_region_held_drew (S := (fun w' => w'.cell? ⟨pw, 0, none⟩ = some (.pointer (some ⟨pa, 0, none⟩)) ∧ w'.cell? ⟨pw, 1, none⟩ = some (.int .i64 (-1)))) (by kernel_rfl) ⟨d0, dR⟩ (fun hHeld => ?_)
        have KD := hid ((Kept.refl (fun _ => False) wC).drew)
        refine ord_take 0 71 (.slice va0 0 vc0) rfl rfl (by kernel_rfl) (by kernel_rfl) (by kernel_rfl) (fun _ _ _ h => h) (by rfl) (fun wS hS => by (try dsimp only at hS); go_split_ands; go_simp) (by assumption) ?_
        simp only [Act.put, List.setIfInBounds_toArray, List.set_cons_zero, List.set_cons_succ]
        refine ord_take 1 72 (.int .i64 0) rfl rfl (by kernel_rfl) (by kernel_rfl) (by kernel_rfl) (fun _ _ _ h => h) (by rfl) (fun wS hS => by (try dsimp only at hS); go_split_ands; go_simp) (by assumption) ?_
        simp only [Act.put, List.setIfInBounds_toArray, List.set_cons_zero, List.set_cons_succ]
        refine ord_take 2 73 (.bool true) rfl rfl (by kernel_rfl) (by kernel_rfl) (by kernel_rfl) (fun _ _ _ h => h) (by rfl) (fun wS hS => by (try dsimp only at hS); go_split_ands; go_simp) (by assumption) ?_
        simp only [Act.put, List.setIfInBounds_toArray, List.set_cons_zero, List.set_cons_succ]
        refine ord_take 3 74 (.bool true) rfl rfl (by kernel_rfl) (by kernel_rfl) (by kernel_rfl) (fun _ _ _ h => h) (by rfl) (fun wS hS => by (try dsimp only at hS); go_split_ands; go_simp) (by assumption) ?_
        simp only [Act.put, List.setIfInBounds_toArray, List.set_cons_zero, List.set_cons_succ]
        refine ord_take 4 75 (.int .i64 (-1)) rfl rfl (by kernel_rfl) (by kernel_rfl) (by kernel_rfl) (fun _ _ _ h => h) (by rfl) (fun wS hS => by (try dsimp only at hS); go_split_ands; go_simp) (by assumption) ?_
        simp only [Act.put, List.setIfInBounds_toArray, List.set_cons_zero, List.set_cons_succ]
        refine ord_take 5 76 (.bool false) rfl rfl (by kernel_rfl) (by kernel_rfl) (by kernel_rfl) (fun _ _ _ h => h) (by rfl) (fun wS hS => by (try dsimp only at hS); go_split_ands; go_simp) (by assumption) ?_
        simp only [Act.put, List.setIfInBounds_toArray, List.set_cons_zero, List.set_cons_succ]
        refine ord_take 6 77 (.bool false) rfl rfl (by kernel_rfl) (by kernel_rfl) (by kernel_rfl) (fun _ _ _ h => h) (by rfl) (fun wS hS => by (try dsimp only at hS); go_split_ands; go_simp) (by assumption) ?_
        simp only [Act.put, List.setIfInBounds_toArray, List.set_cons_zero, List.set_cons_succ]
        refine ord_take 7 78 (.pointer (some ⟨pw, 0, none⟩)) rfl rfl (by kernel_rfl) (by kernel_rfl) (by kernel_rfl) (fun _ _ _ h => h) (by rfl) (fun wS hS => by (try dsimp only at hS); go_split_ands; go_simp) (by assumption) ?_
        simp only [Act.put, List.setIfInBounds_toArray, List.set_cons_zero, List.set_cons_succ]
        refine ord_take 8 79 (.int .i64 0) rfl rfl (by kernel_rfl) (by kernel_rfl) (by kernel_rfl) (fun _ _ _ h => h) (by rfl) (fun wS hS => by (try dsimp only at hS); go_split_ands; go_simp) (by assumption) ?_
        simp only [Act.put, List.setIfInBounds_toArray, List.set_cons_zero, List.set_cons_succ]
        refine ord_take 9 80 (.pointer (some ⟨pw, 0, none⟩)) rfl rfl (by kernel_rfl) (by kernel_rfl) (by kernel_rfl) (fun _ _ _ h => h) (by rfl) (fun wS hS => by (try dsimp only at hS); go_split_ands; go_simp) (by assumption) ?_
        simp only [Act.put, List.setIfInBounds_toArray, List.set_cons_zero, List.set_cons_succ]
        refine ord_take 10 81 (.pointer (some ⟨pw, 1, none⟩)) rfl rfl (by kernel_rfl) (by kernel_rfl) (by kernel_rfl) (fun _ _ _ h => h) (by rfl) (fun wS hS => by (try dsimp only at hS); go_split_ands; go_simp) (by assumption) ?_
        simp only [Act.put, List.setIfInBounds_toArray, List.set_cons_zero, List.set_cons_succ]
        refine ord_take 11 82 (.pointer (some ⟨pw, 1, none⟩)) rfl rfl (by kernel_rfl) (by kernel_rfl) (by kernel_rfl) (fun _ _ _ h => h) (by rfl) (fun wS hS => by (try dsimp only at hS); go_split_ands; go_simp) (by assumption) ?_
        simp only [Act.put, List.setIfInBounds_toArray, List.set_cons_zero, List.set_cons_succ]
        refine ord_take 12 83 (.int .i64 (-1)) rfl rfl (by kernel_rfl) (by kernel_rfl) (by kernel_rfl) (fun _ _ _ h => h) (by rfl) (fun wS hS => by (try dsimp only at hS); go_split_ands; go_simp) (by assumption) ?_
        simp only [Act.put, List.setIfInBounds_toArray, List.set_cons_zero, List.set_cons_succ]
        refine ord_take 13 84 (.bool false) rfl rfl (by kernel_rfl) (by kernel_rfl) (by kernel_rfl) (fun _ _ _ h => h) (by rfl) (fun wS hS => by (try dsimp only at hS); go_split_ands; go_simp) (by assumption) ?_
        simp only [Act.put, List.setIfInBounds_toArray, List.set_cons_zero, List.set_cons_succ]
        refine ord_take 14 85 (.bool false) rfl rfl (by kernel_rfl) (by kernel_rfl) (by kernel_rfl) (fun _ _ _ h => h) (by rfl) (fun wS hS => by (try dsimp only at hS); go_split_ands; go_simp) (by assumption) ?_
        simp only [Act.put, List.setIfInBounds_toArray, List.set_cons_zero, List.set_cons_succ]
        refine ord_take 15 86 (.bool false) rfl rfl (by kernel_rfl) (by kernel_rfl) (by kernel_rfl) (fun _ _ _ h => h) (by rfl) (fun wS hS => by (try dsimp only at hS); go_split_ands; go_simp) (by assumption) ?_
        simp only [Act.put, List.setIfInBounds_toArray, List.set_cons_zero, List.set_cons_succ]
        refine ord_take 16 87 (.bool false) rfl rfl (by kernel_rfl) (by kernel_rfl) (by kernel_rfl) (fun _ _ _ h => h) (by rfl) (fun wS hS => by (try dsimp only at hS); go_split_ands; go_simp) (by assumption) ?_
        simp only [Act.put, List.setIfInBounds_toArray, List.set_cons_zero, List.set_cons_succ]
        refine ord_take 17 88 (.slice va0 0 vc0) rfl rfl (by kernel_rfl) (by kernel_rfl) (by kernel_rfl) (fun _ _ _ h => h) (by rfl) (fun wS hS => by (try dsimp only at hS); go_split_ands; go_simp) (by assumption) ?_
        simp only [Act.put, List.setIfInBounds_toArray, List.set_cons_zero, List.set_cons_succ]
        refine ord_take 18 89 (.int .i64 0) rfl rfl (by kernel_rfl) (by kernel_rfl) (by kernel_rfl) (fun _ _ _ h => h) (by rfl) (fun wS hS => by (try dsimp only at hS); go_split_ands; go_simp) (by assumption) ?_
        simp only [Act.put, List.setIfInBounds_toArray, List.set_cons_zero, List.set_cons_succ]
        refine ord_take 19 90 (.bool false) rfl rfl (by kernel_rfl) (by kernel_rfl) (by kernel_rfl) (fun _ _ _ h => h) (by rfl) (fun wS hS => by (try dsimp only at hS); go_split_ands; go_simp) (by assumption) ?_
        simp only [Act.put, List.setIfInBounds_toArray, List.set_cons_zero, List.set_cons_succ]
        refine ord_take 20 91 (.bool false) rfl rfl (by kernel_rfl) (by kernel_rfl) (by kernel_rfl) (fun _ _ _ h => h) (by rfl) (fun wS hS => by (try dsimp only at hS); go_split_ands; go_simp) (by assumption) ?_
        simp only [Act.put, List.setIfInBounds_toArray, List.set_cons_zero, List.set_cons_succ]
        refine ord_skip 21 92 rfl rfl (by kernel_rfl) (by kernel_rfl) (by kernel_rfl) (fun _ _ _ h => h) (by rfl) (by assumption) ?_
        simp only [Act.put, List.setIfInBounds_toArray, List.set_cons_zero, List.set_cons_succ]
        refine ord_skip 22 93 rfl rfl (by kernel_rfl) (by kernel_rfl) (by kernel_rfl) (fun _ _ _ h => h) (by rfl) (by assumption) ?_
        simp only [Act.put, List.setIfInBounds_toArray, List.set_cons_zero, List.set_cons_succ]
        refine ord_skip 23 94 rfl rfl (by kernel_rfl) (by kernel_rfl) (by kernel_rfl) (fun _ _ _ h => h) (by rfl) (by assumption) ?_
        simp only [Act.put, List.setIfInBounds_toArray, List.set_cons_zero, List.set_cons_succ]
        refine ord_skip 24 95 rfl rfl (by kernel_rfl) (by kernel_rfl) (by kernel_rfl) (fun _ _ _ h => h) (by rfl) (by assumption) ?_
        simp only [Act.put, List.setIfInBounds_toArray, List.set_cons_zero, List.set_cons_succ]
        refine ord_skip 25 96 rfl rfl (by kernel_rfl) (by kernel_rfl) (by kernel_rfl) (fun _ _ _ h => h) (by rfl) (by assumption) ?_
        simp only [Act.put, List.setIfInBounds_toArray, List.set_cons_zero, List.set_cons_succ]
        refine ord_skip 26 97 rfl rfl (by kernel_rfl) (by kernel_rfl) (by kernel_rfl) (fun _ _ _ h => h) (by rfl) (by assumption) ?_
        simp only [Act.put, List.setIfInBounds_toArray, List.set_cons_zero, List.set_cons_succ]
        refine ord_skip 27 98 rfl rfl (by kernel_rfl) (by kernel_rfl) (by kernel_rfl) (fun _ _ _ h => h) (by rfl) (by assumption) ?_
        simp only [Act.put, List.setIfInBounds_toArray, List.set_cons_zero, List.set_cons_succ]
        refine ord_skip 28 99 rfl rfl (by kernel_rfl) (by kernel_rfl) (by kernel_rfl) (fun _ _ _ h => h) (by rfl) (by assumption) ?_
        simp only [Act.put, List.setIfInBounds_toArray, List.set_cons_zero, List.set_cons_succ]
        have KE := KD
        refine ord_take 29 100 (.bool false) rfl rfl (by kernel_rfl) (by kernel_rfl) (by kernel_rfl) (fun _ _ _ h => h) (by rfl) (fun wS hS => by (try dsimp only at hS); go_split_ands; go_simp) (by assumption) ?_
        simp only [Act.put, List.setIfInBounds_toArray, List.set_cons_zero, List.set_cons_succ]
        refine ord_take 30 101 (.bool false) rfl rfl (by kernel_rfl) (by kernel_rfl) (by kernel_rfl) (fun _ _ _ h => h) (by rfl) (fun wS hS => by (try dsimp only at hS); go_split_ands; go_simp) (by assumption) ?_
        simp only [Act.put, List.setIfInBounds_toArray, List.set_cons_zero, List.set_cons_succ]
        refine ord_take 31 102 (.bool false) rfl rfl (by kernel_rfl) (by kernel_rfl) (by kernel_rfl) (fun _ _ _ h => h) (by rfl) (fun wS hS => by (try dsimp only at hS); go_split_ands; go_simp) (by assumption) ?_
        simp only [Act.put, List.setIfInBounds_toArray, List.set_cons_zero, List.set_cons_succ]
        refine ord_take 32 103 (.pointer (some ⟨pw, 0, none⟩)) rfl rfl (by kernel_rfl) (by kernel_rfl) (by kernel_rfl) (fun _ _ _ h => h) (by rfl) (fun wS hS => by (try dsimp only at hS); go_split_ands; go_simp) (by assumption) ?_
        simp only [Act.put, List.setIfInBounds_toArray, List.set_cons_zero, List.set_cons_succ]
        refine ord_take 33 104 (.pointer (some ⟨pw, 0, none⟩)) rfl rfl (by kernel_rfl) (by kernel_rfl) (by kernel_rfl) (fun _ _ _ h => h) (by rfl) (fun wS hS => by (try dsimp only at hS); go_split_ands; go_simp) (by assumption) ?_
        simp only [Act.put, List.setIfInBounds_toArray, List.set_cons_zero, List.set_cons_succ]
        refine ord_take 34 105 (.pointer (some ⟨pw, 0, none⟩)) rfl rfl (by kernel_rfl) (by kernel_rfl) (by kernel_rfl) (fun _ _ _ h => h) (by rfl) (fun wS hS => by (try dsimp only at hS); go_split_ands; go_simp) (by assumption) ?_
        simp only [Act.put, List.setIfInBounds_toArray, List.set_cons_zero, List.set_cons_succ]
        refine ord_take 35 106 (.pointer (some ⟨pa, 0, none⟩)) rfl rfl (by kernel_rfl) (by kernel_rfl) (by kernel_rfl) (fun _ _ _ h => h) (by rfl) (fun wS hS => by (try dsimp only at hS); go_split_ands; go_simp) (by assumption) ?_
        simp only [Act.put, List.setIfInBounds_toArray, List.set_cons_zero, List.set_cons_succ]
        refine ord_take 36 107 (.pointer (some ⟨pw, 0, none⟩)) rfl rfl (by kernel_rfl) (by kernel_rfl) (by kernel_rfl) (fun _ _ _ h => h) (by rfl) (fun wS hS => by (try dsimp only at hS); go_split_ands; go_simp) (by assumption) ?_
        simp only [Act.put, List.setIfInBounds_toArray, List.set_cons_zero, List.set_cons_succ]
        refine ord_take 37 108 (.int .i64 0) rfl rfl (by kernel_rfl) (by kernel_rfl) (by kernel_rfl) (fun _ _ _ h => h) (by rfl) (fun wS hS => by (try dsimp only at hS); go_split_ands; go_simp) (by assumption) ?_
        simp only [Act.put, List.setIfInBounds_toArray, List.set_cons_zero, List.set_cons_succ]
        refine ord_take 38 109 (.pointer (some ⟨pw, 0, none⟩)) rfl rfl (by kernel_rfl) (by kernel_rfl) (by kernel_rfl) (fun _ _ _ h => h) (by rfl) (fun wS hS => by (try dsimp only at hS); go_split_ands; go_simp) (by assumption) ?_
        simp only [Act.put, List.setIfInBounds_toArray, List.set_cons_zero, List.set_cons_succ]
        refine ord_take 39 110 (.pointer (some ⟨pw, 1, none⟩)) rfl rfl (by kernel_rfl) (by kernel_rfl) (by kernel_rfl) (fun _ _ _ h => h) (by rfl) (fun wS hS => by (try dsimp only at hS); go_split_ands; go_simp) (by assumption) ?_
        simp only [Act.put, List.setIfInBounds_toArray, List.set_cons_zero, List.set_cons_succ]
        refine ord_take 40 111 (.pointer (some ⟨pw, 1, none⟩)) rfl rfl (by kernel_rfl) (by kernel_rfl) (by kernel_rfl) (fun _ _ _ h => h) (by rfl) (fun wS hS => by (try dsimp only at hS); go_split_ands; go_simp) (by assumption) ?_
        simp only [Act.put, List.setIfInBounds_toArray, List.set_cons_zero, List.set_cons_succ]
        refine ord_take 41 112 (.int .i64 (-1)) rfl rfl (by kernel_rfl) (by kernel_rfl) (by kernel_rfl) (fun _ _ _ h => h) (by rfl) (fun wS hS => by (try dsimp only at hS); go_split_ands; go_simp) (by assumption) ?_
        simp only [Act.put, List.setIfInBounds_toArray, List.set_cons_zero, List.set_cons_succ]
        refine ord_take 43 114 (.slice va0 0 vc0) rfl rfl (by kernel_rfl) (by kernel_rfl) (by kernel_rfl) (fun _ _ _ h => h) (by rfl) (fun wS hS => by (try dsimp only at hS); go_split_ands; go_simp) (by assumption) ?_
        simp only [Act.put, List.setIfInBounds_toArray, List.set_cons_zero, List.set_cons_succ]
        have hlE := Nat.lt_of_lt_of_le hlC KE.out.size
        refine wpAnyH_ready (rs := [42]) (by kernel_rfl) (by simp) ?_
        refine AllReadyH.cons rfl (fun K hK => ?_) AllReadyH.nil
        go_simp
        refine (AL.out _ KE.out).mono ?_
        rintro e wG ⟨v3, m3, k3, rfl, o3, p3, q3, hk3, e3⟩
        have hlG := Nat.lt_of_lt_of_le hlE e3.kept.size
        replace d0 := (e3.kept.cell (p := ⟨pw, 0, none⟩) hlE NFp.out).trans d0
        replace dR := (e3.kept.cell (p := ⟨pw, 1, none⟩) hlE NFp.out).trans dR
        have O3 := hid o3
        have P3 := hid p3
        have Q3 := hid q3
        have E3 := hid e3
        obtain ⟨va3, vc3, rfl⟩ := own_form o3
        clear o3 p3 q3 e3
        go_wp2_with fail
        refine hK.out _ _ ⟨d0, dR⟩ (fun hHeld => ?_)
        clear hK K
        refine wpAnyH_ready (rs := [44]) (by kernel_rfl) (by simp) ?_
        refine AllReadyH.cons rfl (fun K hK => ?_) AllReadyH.nil
        go_simp
        refine (CE.out _ ((LZ.out.kept KE.out (fun _ _ e => e)).kept E3.out.kept (fun _ q => q.1))).mono ?_
        rintro e wH ⟨v4, m4, rfl, o4, p4, q4, k4⟩
        replace d0 := (k4.cell (p := ⟨pw, 0, none⟩) hlG (fun e => e)).trans d0
        replace dR := (k4.cell (p := ⟨pw, 1, none⟩) hlG (fun e => e)).trans dR
        have O4 := hid o4
        have P4 := hid p4
        have Q4 := hid q4
        have K4 := hid k4
        obtain ⟨va4, vc4, rfl⟩ := own_form o4
        clear o4 p4 q4 k4
        go_wp2_with fail
        refine hK.out _ _ ⟨d0, dR⟩ (fun hHeld => ?_)
        clear hK K
        refine wpAnyH_ready (rs := [45]) (by kernel_rfl) (by simp) ?_
        refine AllReadyH.cons rfl (fun K hK => ?_) AllReadyH.nil
        go_simp
        refine (sameN _ _ m3 m4 (sort_uniq (P3.out.trans (GD.out.pm.symm.trans P4.out.symm)) Q3.out Q4.out) (by rw [P3.out.length_eq]; have := WZ.out; have := TS.out (tk (tk s kz) k2); omega) _ (own_plain (own_base O3.out (Nat.zero_le _)) K4.out) (own_base O4.out (Nat.zero_le _))).mono ?_
        rintro e wI ⟨rfl, nI, rfl⟩
        go_wp2_with fail
        refine hK.out _ _ ⟨d0, dR⟩ (fun hHeld => ?_)
        clear hK K
        refine ord_take 46 117 (.bool false) rfl rfl (by kernel_rfl) (by kernel_rfl) (by kernel_rfl) (fun _ _ _ h => h) (by rfl) (fun wS hS => by (try dsimp only at hS); go_split_ands; go_simp) (by assumption) ?_
        simp only [Act.put, List.setIfInBounds_toArray, List.set_cons_zero, List.set_cons_succ]
        refine ord_take 47 118 (.bool false) rfl rfl (by kernel_rfl) (by kernel_rfl) (by kernel_rfl) (fun _ _ _ h => h) (by rfl) (fun wS hS => by (try dsimp only at hS); go_split_ands; go_simp) (by assumption) ?_
        simp only [Act.put, List.setIfInBounds_toArray, List.set_cons_zero, List.set_cons_succ]
        refine ord_take 48 119 (.bool false) rfl rfl (by kernel_rfl) (by kernel_rfl) (by kernel_rfl) (fun _ _ _ h => h) (by rfl) (fun wS hS => by (try dsimp only at hS); go_split_ands; go_simp) (by assumption) ?_
        simp only [Act.put, List.setIfInBounds_toArray, List.set_cons_zero, List.set_cons_succ]
        refine ord_take 49 120 (.pointer (some ⟨pw, 0, none⟩)) rfl rfl (by kernel_rfl) (by kernel_rfl) (by kernel_rfl) (fun _ _ _ h => h) (by rfl) (fun wS hS => by (try dsimp only at hS); go_split_ands; go_simp) (by assumption) ?_
        simp only [Act.put, List.setIfInBounds_toArray, List.set_cons_zero, List.set_cons_succ]
        refine ord_take 50 121 (.int .i64 0) rfl rfl (by kernel_rfl) (by kernel_rfl) (by kernel_rfl) (fun _ _ _ h => h) (by rfl) (fun wS hS => by (try dsimp only at hS); go_split_ands; go_simp) (by assumption) ?_
        simp only [Act.put, List.setIfInBounds_toArray, List.set_cons_zero, List.set_cons_succ]
        have WI := hid (((((HC.out.plain KE.out).ex E3.out).plain K4.out).drewN nI))
        have SP := hid (shape0 WI.out (HIC.out.tk k3) (by have := WZ.out; omega) (by show s.steps + kz + k2 + k3 ≤ _; have := WZ.out; have := TS.out (tk (tk s kz) k2); omega))
        have hlI := WI.out.lt
        refine wpAnyH_ready (rs := [51]) (by kernel_rfl) (by simp) ?_
        refine AllReadyH.cons rfl (fun K hK => ?_) AllReadyH.nil
        go_simp
        refine SP.out.mono ?_
        rintro e wJ ⟨rfl, k5, hk5, e5⟩
        replace d0 := (e5.kept.cell (p := ⟨pw, 0, none⟩) hlI NFp.out).trans d0
        replace dR := (e5.kept.cell (p := ⟨pw, 1, none⟩) hlI NFp.out).trans dR
        have WJ := hid (WI.out.ex e5)
        clear e5
        go_wp2_with fail
        refine hK.out _ _ ⟨d0, dR⟩ (fun hHeld => ?_)
        clear hK K
        refine ord_take 52 123 (.bool false) rfl rfl (by kernel_rfl) (by kernel_rfl) (by kernel_rfl) (fun _ _ _ h => h) (by rfl) (fun wS hS => by (try dsimp only at hS); go_split_ands; go_simp) (by assumption) ?_
        simp only [Act.put, List.setIfInBounds_toArray, List.set_cons_zero, List.set_cons_succ]
        refine ord_take 53 124 (.bool false) rfl rfl (by kernel_rfl) (by kernel_rfl) (by kernel_rfl) (fun _ _ _ h => h) (by rfl) (fun wS hS => by (try dsimp only at hS); go_split_ands; go_simp) (by assumption) ?_
        simp only [Act.put, List.setIfInBounds_toArray]
        refine wpAnyH_done (by kernel_rfl) ?_ _
        refine NoPanic.normal ?_
        clear d0 dR
        go_wp2
        go_roundw
        case rel => exact ⟨1, kz + k2 + k3 + k5, sp2, mo2, by go_num, by omega, by have := WZ.out; have := TS.out (tk (tk s kz) k2); omega, hsp2, by omega, by rw [← tk_tk, ← tk_tk, ← tk_tk]; have z := WJ.out; rw [HLE.out] at z; exact z⟩
        case measure => simp [intOf]

      · have HW := hid hw
        have HI2 := hid (HI.out.tk kz)
        obtain ⟨c0, c1, c2, c3, c4, c5, c6, c7, cf⟩ := hw.cells
        have hlt := hw.lt
        have M := hid (meterA pa pm (tk s kz) F wr hw.is)
        have T := hid (stepsA pa pm (tk s kz) F wr hw.is)
        have NFp := hid hw.out
        have hll : n0 ≤ 700 := hl0
        have WZ := hid (show L0.length = n0 from HN0.out.symm)
        have GD := hid HI2.out.a
        have TS := hid (fun s' => (show (its s' t).length ≤ 700 by unfold its; rw [size_items, GD.out.len, WZ.out]; exact hll))
        obtain ⟨q, hq⟩ : ∃ q, q = (tk s kz).steps := ⟨_, rfl⟩
        rw [← hq] at T
        have HQ := hid hq
        have hq1 : q ≤ 60090000 := by rw [hq]; show s.steps + kz ≤ _; omega
        clear hw c5 c6 c7 cf hq
        obtain ⟨len, hlen⟩ : ∃ len, len = n0 := ⟨_, rfl⟩
        rw [← hlen] at c3 hll WZ HW
        have HLE := hid hlen
        obtain ⟨x, hx⟩ := lst_some (fun e => ht (GD.out.none.2 e))
        obtain ⟨i, hxi⟩ : ∃ i, x.1 = i := ⟨_, rfl⟩
        have MI := hid (fun w1 (k1 : Kept (fun _ => False) wr w1) => (minC HI2.out (by show s.steps + kz ≤ _; omega) ((Ex.start HW.out.is).plain k1)).mono fun e w' h => (show e = .returned (.int .i64 (i : Int)) ∧ ∃ k, k ≤ 200 ∧ Ex F wr w' pa pm (tk (tk s kz) k) from by
          obtain ⟨m, he, h1, h2, k, hk, hx'⟩ := h
          exact ⟨by rw [he, h2 x hx, hxi], k, hk, hx'⟩))
        obtain ⟨k, hk'⟩ : ∃ k, k = lstS L0 (L0.length - 1) := ⟨_, rfl⟩
        rw [← hk'] at hx
        have HKK := hid hk'
        have HX := hid hx
        have HXI := hid hxi
        have hkl : k < len := by have := (List.getElem?_eq_some_iff.1 hx).1; have := WZ.out; omega
        have hlen1 : ((len : Int) == 0) = false := by simp; omega
        have hlen2 : ¬ len = 0 := by omega
        have hlen3 : 0 < len := by omega
        have hkl' : (k : Int) < (len : Int) := by omega
        have HT := hid ht
        clear hk' hx hxi ht
        clear hlen
        go_wp2_with fail
        refine M.out.mono ?_
        rintro e wA ⟨rfl, rfl⟩
        go_wp2_with fail
        refine T.out.mono ?_
        rintro e wB ⟨rfl, rfl⟩
        clear M T
        go_wp2_with fail
        go_region_held3 (fun w' => w'.cell? ⟨pw, 0, none⟩ = some (.pointer (some ⟨pa, 0, none⟩)) ∧ w'.cell? ⟨pw, 1, none⟩ = some (.int .i64 (headr t))) (first | exact ⟨c0, c1⟩ | (simp [go_sem]; exact ⟨c0, c1⟩))
          (first
            | (go_at_call 8; refine (MI.out _ (by first | exact Kept.refl _ _ | exact (Kept.refl _ _).drew | exact (Kept.refl _ _).drewN _)).mono ?_; rintro e w3 ⟨rfl, k1, hk1, e3⟩; replace c0 := (e3.kept.cell (p := ⟨pw, 0, none⟩) hlt NFp.out).trans c0; replace c1 := (e3.kept.cell (p := ⟨pw, 1, none⟩) hlt NFp.out).trans c1; have E3 := hid e3; clear e3))
        have W3 := hid (HW.out.ex E3.out)
        obtain ⟨mm, hmm⟩ : ∃ mm : Nat, mm = len + n1 := ⟨_, rfl⟩
        have hsum : (len : Int) + (n1 : Int) = (mm : Int) := by omega
        have hmm2 : mm ≤ 1400 := by omega
        clear hmm
        have hwm : IntKind.i64.wrap (mm : Int) = (mm : Int) := IntWalk.i64_in _ (by omega)
        have BM := bts_le 11 mm (by omega)
        have C := hid (fun w1 (k1' : Kept (fun _ => False) w3 w1) => costW mm q sp' mo' (by omega) (W3.out.plain k1') (by rw [HQ.out]; show _ ≤ s.steps + kz + k1; show s.steps + kz ≤ _; omega) (by show s.steps + kz + k1 ≤ _; omega) (by omega) (by have h1 : q = s.steps + kz := HQ.out; show sp' + (s.steps + kz + k1) ≤ _; omega))
        clear c0 c1 c2 c3 c4 MI E3 HW
        obtain ⟨_, _, _, c3, c4, _, _, _, _⟩ := W3.out.cells
        have hlt3 := W3.out.lt
        go_wp2_with fail
        go_region_held3 (fun w' => w'.cell? ⟨pw, 3, none⟩ = some (.slice va0 len vc0) ∧ w'.cell? ⟨pw, 4, none⟩ = some (.slice va1 n1 vc1)) (first | exact ⟨c3, c4⟩)
          (first
            | (go_at_call 22; refine (C.out _ (by first | exact Kept.refl _ _ | exact (Kept.refl _ _).drew | exact (Kept.refl _ _).drewN _)).mono ?_; rintro e wC ⟨rfl, sp2, mo2, hs2, hm2, hC⟩; replace c3 := hC.cells.2.2.2.1; replace c4 := hC.cells.2.2.2.2.1; have HC0 := hid hC; have HS2 := hid hs2; have HM2 := hid hm2; clear hs2 hm2 hC))
        have hC := HC0.out
        have hs2 := HS2.out
        have hm2 := HM2.out
        clear HC0 HS2 HM2 c3 c4 hlt3 hwm hsum
        have hs3 : sp2 + q = sp' + (s.steps + kz + k1) := hs2
        have hq3 : q = s.steps + kz := HQ.out
        have hsp2 : sp2 + pp ≤ mo2 := by omega
        have hmo2 : mo2 ≤ mo' + 5000 := by omega
        clear hs2 hm2 hs3 hq3 BM
        obtain ⟨k2, hk2⟩ : ∃ k2, k2 = k1 := ⟨_, rfl⟩
        subst hk2
        have HC := hid hC
        have HIC := hid (HI2.out.tk k2)
        obtain ⟨d0, d1, d2, _, _, _, _, _, _⟩ := hC.cells
        have hlC := hC.lt
        have LZ := hid hC.l0
        have AL := hid (fun w1 (k1 : Kept (fun _ => False) wC w1) => allC HIC.out (by have := WZ.out; omega) ((Ex.start hC.is).plain k1).is (by show s.steps + kz + k2 ≤ _; omega))
        have CE := hid (fun w1 (lz : Lz (fun b => ¬ F b ∧ b ≠ pw) w1 _ L0) => cellsH (.slice va0 len vc0) L0 w1 lz (by have := WZ.out; omega))
        obtain ⟨b, cap, eb, _, hbC, hPb, dx, _, _⟩ := hC.l0.at HX.out
        rw [HXI.out] at dx
        obtain rfl : va0 = some ⟨b, 0, none⟩ := by injection eb
        have NFb := hid hPb.1
        have LE := hid (fun w1 (k1 : Kept (fun _ => False) wC w1) => leastH (.slice (some ⟨b, 0, none⟩) len vc0) L0 w1 (hC.l0.kept k1 fun _ _ e => e) (by have := WZ.out; omega))
        rw [← HKK.out] at LE
        clear eb hPb
        clear hC C W3
        replace d1 : wC.cell? ⟨pw, 1, none⟩ = some (.int .i64 (headr t)) := d1
        have dR := d1
        clear d1 d2
        go_upto_region 11 with fail
        refine wp_region_noPanic ?_
        refine wp_region_held_drew (S := (fun w' => w'.cell? ⟨pw, 0, none⟩ = some (.pointer (some ⟨pa, 0, none⟩)) ∧ w'.cell? ⟨pw, 1, none⟩ = some (.int .i64 (headr t)) ∧ w'.cell? ⟨b, k * 3, none⟩ = some (.int .i64 (i : Int)))) (by kernel_rfl) ⟨d0, dR, dx⟩ (fun hHeld => ?_)
        have KD := hid ((Kept.refl (fun _ => False) wC).drew)
        refine ord_take 0 71 (.slice (some ⟨b, 0, none⟩) len vc0) rfl rfl (by kernel_rfl) (by kernel_rfl) (by kernel_rfl) (fun _ _ _ h => h) (by rfl) (fun wS hS => by (try dsimp only at hS); go_split_ands; go_simp) (by assumption) ?_
        simp only [Act.put, List.setIfInBounds_toArray, List.set_cons_zero, List.set_cons_succ]
        refine ord_take 1 72 (.int .i64 (len : Int)) rfl rfl (by kernel_rfl) (by kernel_rfl) (by kernel_rfl) (fun _ _ _ h => h) (by rfl) (fun wS hS => by (try dsimp only at hS); go_split_ands; go_simp) (by assumption) ?_
        simp only [Act.put, List.setIfInBounds_toArray, List.set_cons_zero, List.set_cons_succ]
        refine ord_take 2 73 (.bool false) rfl rfl (by kernel_rfl) (by kernel_rfl) (by kernel_rfl) (fun _ _ _ h => h) (by rfl) (fun wS hS => by (try dsimp only at hS); go_split_ands; go_simp) (by assumption) ?_
        simp only [Act.put, List.setIfInBounds_toArray, List.set_cons_zero, List.set_cons_succ]
        refine ord_take 3 74 (.bool false) rfl rfl (by kernel_rfl) (by kernel_rfl) (by kernel_rfl) (fun _ _ _ h => h) (by rfl) (fun wS hS => by (try dsimp only at hS); go_split_ands; go_simp) (by assumption) ?_
        simp only [Act.put, List.setIfInBounds_toArray, List.set_cons_zero, List.set_cons_succ]
        refine ord_skip 4 75 rfl rfl (by kernel_rfl) (by kernel_rfl) (by kernel_rfl) (fun _ _ _ h => h) (by rfl) (by assumption) ?_
        simp only [Act.put, List.setIfInBounds_toArray, List.set_cons_zero, List.set_cons_succ]
        refine ord_skip 5 76 rfl rfl (by kernel_rfl) (by kernel_rfl) (by kernel_rfl) (fun _ _ _ h => h) (by rfl) (by assumption) ?_
        simp only [Act.put, List.setIfInBounds_toArray, List.set_cons_zero, List.set_cons_succ]
        refine ord_skip 6 77 rfl rfl (by kernel_rfl) (by kernel_rfl) (by kernel_rfl) (fun _ _ _ h => h) (by rfl) (by assumption) ?_
        simp only [Act.put, List.setIfInBounds_toArray, List.set_cons_zero, List.set_cons_succ]
        refine ord_skip 7 78 rfl rfl (by kernel_rfl) (by kernel_rfl) (by kernel_rfl) (fun _ _ _ h => h) (by rfl) (by assumption) ?_
        simp only [Act.put, List.setIfInBounds_toArray, List.set_cons_zero, List.set_cons_succ]
        refine ord_skip 8 79 rfl rfl (by kernel_rfl) (by kernel_rfl) (by kernel_rfl) (fun _ _ _ h => h) (by rfl) (by assumption) ?_
        simp only [Act.put, List.setIfInBounds_toArray, List.set_cons_zero, List.set_cons_succ]
        refine ord_skip 9 80 rfl rfl (by kernel_rfl) (by kernel_rfl) (by kernel_rfl) (fun _ _ _ h => h) (by rfl) (by assumption) ?_
        simp only [Act.put, List.setIfInBounds_toArray, List.set_cons_zero, List.set_cons_succ]
        refine ord_skip 10 81 rfl rfl (by kernel_rfl) (by kernel_rfl) (by kernel_rfl) (fun _ _ _ h => h) (by rfl) (by assumption) ?_
        simp only [Act.put, List.setIfInBounds_toArray, List.set_cons_zero, List.set_cons_succ]
        refine ord_skip 11 82 rfl rfl (by kernel_rfl) (by kernel_rfl) (by kernel_rfl) (fun _ _ _ h => h) (by rfl) (by assumption) ?_
        simp only [Act.put, List.setIfInBounds_toArray, List.set_cons_zero, List.set_cons_succ]
        refine ord_skip 12 83 rfl rfl (by kernel_rfl) (by kernel_rfl) (by kernel_rfl) (fun _ _ _ h => h) (by rfl) (by assumption) ?_
        simp only [Act.put, List.setIfInBounds_toArray, List.set_cons_zero, List.set_cons_succ]
        refine ord_skip 13 84 rfl rfl (by kernel_rfl) (by kernel_rfl) (by kernel_rfl) (fun _ _ _ h => h) (by rfl) (by assumption) ?_
        simp only [Act.put, List.setIfInBounds_toArray, List.set_cons_zero, List.set_cons_succ]
        refine ord_skip 14 85 rfl rfl (by kernel_rfl) (by kernel_rfl) (by kernel_rfl) (fun _ _ _ h => h) (by rfl) (by assumption) ?_
        simp only [Act.put, List.setIfInBounds_toArray, List.set_cons_zero, List.set_cons_succ]
        refine ord_take 15 86 (.bool false) rfl rfl (by kernel_rfl) (by kernel_rfl) (by kernel_rfl) (fun _ _ _ h => h) (by rfl) (fun wS hS => by (try dsimp only at hS); go_split_ands; go_simp) (by assumption) ?_
        simp only [Act.put, List.setIfInBounds_toArray, List.set_cons_zero, List.set_cons_succ]
        refine ord_take 16 87 (.bool false) rfl rfl (by kernel_rfl) (by kernel_rfl) (by kernel_rfl) (fun _ _ _ h => h) (by rfl) (fun wS hS => by (try dsimp only at hS); go_split_ands; go_simp) (by assumption) ?_
        simp only [Act.put, List.setIfInBounds_toArray, List.set_cons_zero, List.set_cons_succ]
        refine ord_take 17 88 (.slice (some ⟨b, 0, none⟩) len vc0) rfl rfl (by kernel_rfl) (by kernel_rfl) (by kernel_rfl) (fun _ _ _ h => h) (by rfl) (fun wS hS => by (try dsimp only at hS); go_split_ands; go_simp) (by assumption) ?_
        simp only [Act.put, List.setIfInBounds_toArray, List.set_cons_zero, List.set_cons_succ]
        refine ord_take 18 89 (.int .i64 (len : Int)) rfl rfl (by kernel_rfl) (by kernel_rfl) (by kernel_rfl) (fun _ _ _ h => h) (by rfl) (fun wS hS => by (try dsimp only at hS); go_split_ands; go_simp) (by assumption) ?_
        simp only [Act.put, List.setIfInBounds_toArray, List.set_cons_zero, List.set_cons_succ]
        refine ord_take 19 90 (.bool true) rfl rfl (by kernel_rfl) (by kernel_rfl) (by kernel_rfl) (fun _ _ _ h => h) (by rfl) (fun wS hS => by (try dsimp only at hS); go_split_ands; go_simp) (by assumption) ?_
        simp only [Act.put, List.setIfInBounds_toArray, List.set_cons_zero, List.set_cons_succ]
        refine ord_take 20 91 (.bool true) rfl rfl (by kernel_rfl) (by kernel_rfl) (by kernel_rfl) (fun _ _ _ h => h) (by rfl) (fun wS hS => by (try dsimp only at hS); go_split_ands; go_simp) (by assumption) ?_
        simp only [Act.put, List.setIfInBounds_toArray, List.set_cons_zero, List.set_cons_succ]
        refine ord_take 21 92 (.int .i64 (i : Int)) rfl rfl (by kernel_rfl) (by kernel_rfl) (by kernel_rfl) (fun _ _ _ h => h) (by rfl) (fun wS hS => by (try dsimp only at hS); go_split_ands; go_simp) (by assumption) ?_
        simp only [Act.put, List.setIfInBounds_toArray, List.set_cons_zero, List.set_cons_succ]
        refine ord_take 22 93 (.slice (some ⟨b, 0, none⟩) len vc0) rfl rfl (by kernel_rfl) (by kernel_rfl) (by kernel_rfl) (fun _ _ _ h => h) (by rfl) (fun wS hS => by (try dsimp only at hS); go_split_ands; go_simp) (by assumption) ?_
        simp only [Act.put, List.setIfInBounds_toArray, List.set_cons_zero, List.set_cons_succ]
        refine ord_take 23 94 (.slice (some ⟨b, 0, none⟩) len vc0) rfl rfl (by kernel_rfl) (by kernel_rfl) (by kernel_rfl) (fun _ _ _ h => h) (by rfl) (fun wS hS => by (try dsimp only at hS); go_split_ands; go_simp) (by assumption) ?_
        simp only [Act.put, List.setIfInBounds_toArray, List.set_cons_zero, List.set_cons_succ]
        refine wpAnyH_ready (rs := [24]) (by kernel_rfl) (by simp) ?_
        refine AllReadyH.cons rfl (fun K hK => ?_) AllReadyH.nil
        go_simp
        refine (LE.out _ KD.out).mono ?_
        rintro e wE ⟨rfl, kE⟩
        have KE := hid (KD.out.trans' kE)
        replace d0 := (kE.cell (p := ⟨pw, 0, none⟩) hlC (fun e => e)).trans d0
        replace dR := (kE.cell (p := ⟨pw, 1, none⟩) hlC (fun e => e)).trans dR
        replace dx := (kE.cell (p := ⟨b, k * 3, none⟩) hbC (fun e => e)).trans dx
        clear kE
        go_wp2_with fail
        refine hK.out _ _ ⟨d0, dR, dx⟩ (fun hHeld => ?_)
        clear hK K
        refine ord_take 25 96 (.pointer (some ⟨b, k * 3, none⟩)) rfl rfl (by kernel_rfl) (by kernel_rfl) (by kernel_rfl) (fun _ _ _ h => h) (by rfl) (fun wS hS => by (try dsimp only at hS); go_split_ands; go_simp) (by assumption) ?_
        simp only [Act.put, List.setIfInBounds_toArray, List.set_cons_zero, List.set_cons_succ]
        refine ord_take 26 97 (.pointer (some ⟨b, k * 3, none⟩)) rfl rfl (by kernel_rfl) (by kernel_rfl) (by kernel_rfl) (fun _ _ _ h => h) (by rfl) (fun wS hS => by (try dsimp only at hS); go_split_ands; go_simp) (by assumption) ?_
        simp only [Act.put, List.setIfInBounds_toArray, List.set_cons_zero, List.set_cons_succ]
        refine ord_take 27 98 (.int .i64 (i : Int)) rfl rfl (by kernel_rfl) (by kernel_rfl) (by kernel_rfl) (fun _ _ _ h => h) (by rfl) (fun wS hS => by (try dsimp only at hS); go_split_ands; go_simp) (by assumption) ?_
        simp only [Act.put, List.setIfInBounds_toArray, List.set_cons_zero, List.set_cons_succ]
        refine ord_take 28 99 (.bool false) rfl rfl (by kernel_rfl) (by kernel_rfl) (by kernel_rfl) (fun _ _ _ h => h) (by rfl) (fun wS hS => by (try dsimp only at hS); go_split_ands; go_simp) (by assumption) ?_
        simp only [Act.put, List.setIfInBounds_toArray, List.set_cons_zero, List.set_cons_succ]
        refine ord_take 29 100 (.bool false) rfl rfl (by kernel_rfl) (by kernel_rfl) (by kernel_rfl) (fun _ _ _ h => h) (by rfl) (fun wS hS => by (try dsimp only at hS); go_split_ands; go_simp) (by assumption) ?_
        simp only [Act.put, List.setIfInBounds_toArray, List.set_cons_zero, List.set_cons_succ]
        refine ord_take 30 101 (.bool false) rfl rfl (by kernel_rfl) (by kernel_rfl) (by kernel_rfl) (fun _ _ _ h => h) (by rfl) (fun wS hS => by (try dsimp only at hS); go_split_ands; go_simp) (by assumption) ?_
        simp only [Act.put, List.setIfInBounds_toArray, List.set_cons_zero, List.set_cons_succ]
        refine ord_take 31 102 (.bool false) rfl rfl (by kernel_rfl) (by kernel_rfl) (by kernel_rfl) (fun _ _ _ h => h) (by rfl) (fun wS hS => by (try dsimp only at hS); go_split_ands; go_simp) (by assumption) ?_
        simp only [Act.put, List.setIfInBounds_toArray, List.set_cons_zero, List.set_cons_succ]
        refine ord_take 32 103 (.pointer (some ⟨pw, 0, none⟩)) rfl rfl (by kernel_rfl) (by kernel_rfl) (by kernel_rfl) (fun _ _ _ h => h) (by rfl) (fun wS hS => by (try dsimp only at hS); go_split_ands; go_simp) (by assumption) ?_
        simp only [Act.put, List.setIfInBounds_toArray, List.set_cons_zero, List.set_cons_succ]
        refine ord_take 33 104 (.pointer (some ⟨pw, 0, none⟩)) rfl rfl (by kernel_rfl) (by kernel_rfl) (by kernel_rfl) (fun _ _ _ h => h) (by rfl) (fun wS hS => by (try dsimp only at hS); go_split_ands; go_simp) (by assumption) ?_
        simp only [Act.put, List.setIfInBounds_toArray, List.set_cons_zero, List.set_cons_succ]
        refine ord_take 34 105 (.pointer (some ⟨pw, 0, none⟩)) rfl rfl (by kernel_rfl) (by kernel_rfl) (by kernel_rfl) (fun _ _ _ h => h) (by rfl) (fun wS hS => by (try dsimp only at hS); go_split_ands; go_simp) (by assumption) ?_
        simp only [Act.put, List.setIfInBounds_toArray, List.set_cons_zero, List.set_cons_succ]
        refine ord_take 35 106 (.pointer (some ⟨pa, 0, none⟩)) rfl rfl (by kernel_rfl) (by kernel_rfl) (by kernel_rfl) (fun _ _ _ h => h) (by rfl) (fun wS hS => by (try dsimp only at hS); go_split_ands; go_simp) (by assumption) ?_
        simp only [Act.put, List.setIfInBounds_toArray, List.set_cons_zero, List.set_cons_succ]
        refine ord_take 36 107 (.pointer (some ⟨pw, 0, none⟩)) rfl rfl (by kernel_rfl) (by kernel_rfl) (by kernel_rfl) (fun _ _ _ h => h) (by rfl) (fun wS hS => by (try dsimp only at hS); go_split_ands; go_simp) (by assumption) ?_
        simp only [Act.put, List.setIfInBounds_toArray, List.set_cons_zero, List.set_cons_succ]
        refine ord_take 37 108 (.int .i64 0) rfl rfl (by kernel_rfl) (by kernel_rfl) (by kernel_rfl) (fun _ _ _ h => h) (by rfl) (fun wS hS => by (try dsimp only at hS); go_split_ands; go_simp) (by assumption) ?_
        simp only [Act.put, List.setIfInBounds_toArray, List.set_cons_zero, List.set_cons_succ]
        refine ord_take 38 109 (.pointer (some ⟨pw, 0, none⟩)) rfl rfl (by kernel_rfl) (by kernel_rfl) (by kernel_rfl) (fun _ _ _ h => h) (by rfl) (fun wS hS => by (try dsimp only at hS); go_split_ands; go_simp) (by assumption) ?_
        simp only [Act.put, List.setIfInBounds_toArray, List.set_cons_zero, List.set_cons_succ]
        refine ord_take 39 110 (.pointer (some ⟨pw, 1, none⟩)) rfl rfl (by kernel_rfl) (by kernel_rfl) (by kernel_rfl) (fun _ _ _ h => h) (by rfl) (fun wS hS => by (try dsimp only at hS); go_split_ands; go_simp) (by assumption) ?_
        simp only [Act.put, List.setIfInBounds_toArray, List.set_cons_zero, List.set_cons_succ]
        refine ord_take 40 111 (.pointer (some ⟨pw, 1, none⟩)) rfl rfl (by kernel_rfl) (by kernel_rfl) (by kernel_rfl) (fun _ _ _ h => h) (by rfl) (fun wS hS => by (try dsimp only at hS); go_split_ands; go_simp) (by assumption) ?_
        simp only [Act.put, List.setIfInBounds_toArray, List.set_cons_zero, List.set_cons_succ]
        refine ord_take 41 112 (.int .i64 (headr t)) rfl rfl (by kernel_rfl) (by kernel_rfl) (by kernel_rfl) (fun _ _ _ h => h) (by rfl) (fun wS hS => by (try dsimp only at hS); go_split_ands; go_simp) (by assumption) ?_
        simp only [Act.put, List.setIfInBounds_toArray, List.set_cons_zero, List.set_cons_succ]
        refine ord_take 43 114 (.slice (some ⟨b, 0, none⟩) len vc0) rfl rfl (by kernel_rfl) (by kernel_rfl) (by kernel_rfl) (fun _ _ _ h => h) (by rfl) (fun wS hS => by (try dsimp only at hS); go_split_ands; go_simp) (by assumption) ?_
        simp only [Act.put, List.setIfInBounds_toArray, List.set_cons_zero, List.set_cons_succ]
        have hlE := Nat.lt_of_lt_of_le hlC KE.out.size
        have hbE := Nat.lt_of_lt_of_le hbC KE.out.size
        refine wpAnyH_ready (rs := [42]) (by kernel_rfl) (by simp) ?_
        refine AllReadyH.cons rfl (fun K hK => ?_) AllReadyH.nil
        go_simp
        refine (AL.out _ KE.out).mono ?_
        rintro e wG ⟨v3, m3, k3, rfl, o3, p3, q3, hk3, e3⟩
        have hlG := Nat.lt_of_lt_of_le hlE e3.kept.size
        have hbG := Nat.lt_of_lt_of_le hbE e3.kept.size
        replace d0 := (e3.kept.cell (p := ⟨pw, 0, none⟩) hlE NFp.out).trans d0
        replace dR := (e3.kept.cell (p := ⟨pw, 1, none⟩) hlE NFp.out).trans dR
        replace dx := (e3.kept.cell (p := ⟨b, k * 3, none⟩) hbE NFb.out).trans dx
        have O3 := hid o3
        have P3 := hid p3
        have Q3 := hid q3
        have E3 := hid e3
        obtain ⟨va3, vc3, rfl⟩ := own_form o3
        clear o3 p3 q3 e3
        go_wp2_with fail
        refine hK.out _ _ ⟨d0, dR, dx⟩ (fun hHeld => ?_)
        clear hK K
        refine wpAnyH_ready (rs := [44]) (by kernel_rfl) (by simp) ?_
        refine AllReadyH.cons rfl (fun K hK => ?_) AllReadyH.nil
        go_simp
        refine (CE.out _ ((LZ.out.kept KE.out (fun _ _ e => e)).kept E3.out.kept (fun _ q => q.1))).mono ?_
        rintro e wH ⟨v4, m4, rfl, o4, p4, q4, k4⟩
        replace d0 := (k4.cell (p := ⟨pw, 0, none⟩) hlG (fun e => e)).trans d0
        replace dR := (k4.cell (p := ⟨pw, 1, none⟩) hlG (fun e => e)).trans dR
        replace dx := (k4.cell (p := ⟨b, k * 3, none⟩) hbG (fun e => e)).trans dx
        have O4 := hid o4
        have P4 := hid p4
        have Q4 := hid q4
        have K4 := hid k4
        obtain ⟨va4, vc4, rfl⟩ := own_form o4
        clear o4 p4 q4 k4
        go_wp2_with fail
        refine hK.out _ _ ⟨d0, dR, dx⟩ (fun hHeld => ?_)
        clear hK K
        refine wpAnyH_ready (rs := [45]) (by kernel_rfl) (by simp) ?_
        refine AllReadyH.cons rfl (fun K hK => ?_) AllReadyH.nil
        go_simp
        refine (sameN _ _ m3 m4 (sort_uniq (P3.out.trans (GD.out.pm.symm.trans P4.out.symm)) Q3.out Q4.out) (by rw [P3.out.length_eq]; have := WZ.out; have := TS.out (tk (tk s kz) k2); omega) _ (own_plain (own_base O3.out (Nat.zero_le _)) K4.out) (own_base O4.out (Nat.zero_le _))).mono ?_
        rintro e wI ⟨rfl, nI, rfl⟩
        go_wp2_with fail
        refine hK.out _ _ ⟨d0, dR, dx⟩ (fun hHeld => ?_)
        clear hK K
        refine ord_take 46 117 (.bool false) rfl rfl (by kernel_rfl) (by kernel_rfl) (by kernel_rfl) (fun _ _ _ h => h) (by rfl) (fun wS hS => by (try dsimp only at hS); go_split_ands; go_simp) (by assumption) ?_
        simp only [Act.put, List.setIfInBounds_toArray, List.set_cons_zero, List.set_cons_succ]
        refine ord_take 47 118 (.bool false) rfl rfl (by kernel_rfl) (by kernel_rfl) (by kernel_rfl) (fun _ _ _ h => h) (by rfl) (fun wS hS => by (try dsimp only at hS); go_split_ands; go_simp) (by assumption) ?_
        simp only [Act.put, List.setIfInBounds_toArray, List.set_cons_zero, List.set_cons_succ]
        refine ord_take 48 119 (.bool false) rfl rfl (by kernel_rfl) (by kernel_rfl) (by kernel_rfl) (fun _ _ _ h => h) (by rfl) (fun wS hS => by (try dsimp only at hS); go_split_ands; go_simp) (by assumption) ?_
        simp only [Act.put, List.setIfInBounds_toArray, List.set_cons_zero, List.set_cons_succ]
        refine ord_take 49 120 (.pointer (some ⟨pw, 0, none⟩)) rfl rfl (by kernel_rfl) (by kernel_rfl) (by kernel_rfl) (fun _ _ _ h => h) (by rfl) (fun wS hS => by (try dsimp only at hS); go_split_ands; go_simp) (by assumption) ?_
        simp only [Act.put, List.setIfInBounds_toArray, List.set_cons_zero, List.set_cons_succ]
        refine ord_take 50 121 (.int .i64 0) rfl rfl (by kernel_rfl) (by kernel_rfl) (by kernel_rfl) (fun _ _ _ h => h) (by rfl) (fun wS hS => by (try dsimp only at hS); go_split_ands; go_simp) (by assumption) ?_
        simp only [Act.put, List.setIfInBounds_toArray, List.set_cons_zero, List.set_cons_succ]
        have WI := hid (((((HC.out.plain KE.out).ex E3.out).plain K4.out).drewN nI))
        have SP := hid (shape0 WI.out (HIC.out.tk k3) (by have := WZ.out; omega) (by show s.steps + kz + k2 + k3 ≤ _; have := WZ.out; have := TS.out (tk (tk s kz) k2); omega))
        have hlI := WI.out.lt
        have hbI : b < (wH.drewN nI).heap.size := Nat.lt_of_lt_of_le hbG K4.out.size
        refine wpAnyH_ready (rs := [51]) (by kernel_rfl) (by simp) ?_
        refine AllReadyH.cons rfl (fun K hK => ?_) AllReadyH.nil
        go_simp
        refine SP.out.mono ?_
        rintro e wJ ⟨rfl, k5, hk5, e5⟩
        replace d0 := (e5.kept.cell (p := ⟨pw, 0, none⟩) hlI NFp.out).trans d0
        replace dR := (e5.kept.cell (p := ⟨pw, 1, none⟩) hlI NFp.out).trans dR
        replace dx := (e5.kept.cell (p := ⟨b, k * 3, none⟩) hbI NFb.out).trans dx
        have WJ := hid (WI.out.ex e5)
        clear e5
        go_wp2_with fail
        refine hK.out _ _ ⟨d0, dR, dx⟩ (fun hHeld => ?_)
        clear hK K
        refine ord_take 52 123 (.bool false) rfl rfl (by kernel_rfl) (by kernel_rfl) (by kernel_rfl) (fun _ _ _ h => h) (by rfl) (fun wS hS => by (try dsimp only at hS); go_split_ands; go_simp) (by assumption) ?_
        simp only [Act.put, List.setIfInBounds_toArray, List.set_cons_zero, List.set_cons_succ]
        refine ord_take 53 124 (.bool false) rfl rfl (by kernel_rfl) (by kernel_rfl) (by kernel_rfl) (fun _ _ _ h => h) (by rfl) (fun wS hS => by (try dsimp only at hS); go_split_ands; go_simp) (by assumption) ?_
        simp only [Act.put, List.setIfInBounds_toArray]
        refine wpAnyH_done (by kernel_rfl) ?_ _
        refine NoPanic.normal ?_
        clear d0 dR dx
        go_wp2
        go_roundw
        case rel => exact ⟨1, kz + k2 + k3 + k5, sp2, mo2, by go_num, by omega, by have := WZ.out; have := TS.out (tk (tk s kz) k2); omega, hsp2, by omega, by rw [← tk_tk, ← tk_tk, ← tk_tk]; have z := WJ.out; rw [HLE.out] at z; exact z⟩
        case measure => simp [intOf]

    · rcases Classical.em (u = nilQ) with ht | ht
      · have HW := hid hw
        have HI2 := hid (HI.out.tk kz)
        obtain ⟨c0, c1, c2, c3, c4, c5, c6, c7, cf⟩ := hw.cells
        have hlt := hw.lt
        have M := hid (meterA pa pm (tk s kz) F wr hw.is)
        have T := hid (stepsA pa pm (tk s kz) F wr hw.is)
        have NFp := hid hw.out
        have hll : n1 ≤ 700 := hl1
        have WZ := hid (show L1.length = n1 from HN1.out.symm)
        have GD := hid HI2.out.b
        have TS := hid (fun s' => (show (its s' u).length ≤ 700 by unfold its; rw [size_items, GD.out.len, WZ.out]; exact hll))
        obtain ⟨q, hq⟩ : ∃ q, q = (tk s kz).steps := ⟨_, rfl⟩
        rw [← hq] at T
        have HQ := hid hq
        have hq1 : q ≤ 60090000 := by rw [hq]; show s.steps + kz ≤ _; omega
        have MI := hid (fun w1 (k1 : Kept (fun _ => False) wr w1) => (minC HI2.out.swap (by show s.steps + kz ≤ _; omega) ((Ex.start hw.is).plain k1)).mono fun e w' h => (show e = .returned (.int .i64 (-1)) ∧ ∃ k, k ≤ 200 ∧ Ex F wr w' pa pm (tk (tk s kz) k) from by
          obtain ⟨m, he, h1, h2, k, hk, hx'⟩ := h
          exact ⟨by rw [he, h1 (GD.out.none.1 ht)], k, hk, hx'⟩))
        clear hw c5 c6 c7 cf hq
        obtain ⟨len, hlen⟩ : ∃ len, len = n1 := ⟨_, rfl⟩
        rw [← hlen] at c4 hll WZ HW
        have HLE := hid hlen
        have hz0 : len = 0 := by have h1 := GD.out.none.1 ht; have h2 := WZ.out; rw [h1] at h2; exact h2.symm
        have HRT := hid (show (headr u) = -1 by rw [ht]; rfl)
        subst hz0
        clear ht
        clear hlen
        go_wp2_with fail
        refine M.out.mono ?_
        rintro e wA ⟨rfl, rfl⟩
        go_wp2_with fail
        refine T.out.mono ?_
        rintro e wB ⟨rfl, rfl⟩
        clear M T
        go_wp2_with fail
        go_region_held3 (fun w' => w'.cell? ⟨pw, 0, none⟩ = some (.pointer (some ⟨pa, 0, none⟩)) ∧ w'.cell? ⟨pw, 2, none⟩ = some (.int .i64 (headr u))) (first | exact ⟨c0, c2⟩ | (simp [go_sem]; exact ⟨c0, c2⟩))
          (first
            | (go_at_call 8; refine (MI.out _ (by first | exact Kept.refl _ _ | exact (Kept.refl _ _).drew | exact (Kept.refl _ _).drewN _)).mono ?_; rintro e w3 ⟨rfl, k1, hk1, e3⟩; replace c0 := (e3.kept.cell (p := ⟨pw, 0, none⟩) hlt NFp.out).trans c0; replace c2 := (e3.kept.cell (p := ⟨pw, 2, none⟩) hlt NFp.out).trans c2; have E3 := hid e3; clear e3))
        have W3 := hid (HW.out.ex E3.out)
        have hwm : IntKind.i64.wrap (n0 : Int) = (n0 : Int) := IntWalk.i64_in _ (by omega)
        have BM := bts_le 11 n0 (by omega)
        have C := hid (fun w1 (k1' : Kept (fun _ => False) w3 w1) => costW n0 q sp' mo' (by omega) (W3.out.plain k1') (by rw [HQ.out]; show _ ≤ s.steps + kz + k1; show s.steps + kz ≤ _; omega) (by show s.steps + kz + k1 ≤ _; omega) (by omega) (by have h1 : q = s.steps + kz := HQ.out; show sp' + (s.steps + kz + k1) ≤ _; omega))
        clear c0 c1 c2 c3 c4 MI E3 HW
        obtain ⟨_, _, _, c3, c4, _, _, _, _⟩ := W3.out.cells
        have hlt3 := W3.out.lt
        go_wp2_with fail
        go_region_held3 (fun w' => w'.cell? ⟨pw, 3, none⟩ = some (.slice va0 n0 vc0) ∧ w'.cell? ⟨pw, 4, none⟩ = some (.slice va1 0 vc1)) (first | exact ⟨c3, c4⟩)
          (first
            | (go_at_call 22; refine (C.out _ (by first | exact Kept.refl _ _ | exact (Kept.refl _ _).drew | exact (Kept.refl _ _).drewN _)).mono ?_; rintro e wC ⟨rfl, sp2, mo2, hs2, hm2, hC⟩; replace c3 := hC.cells.2.2.2.1; replace c4 := hC.cells.2.2.2.2.1; have HC0 := hid hC; have HS2 := hid hs2; have HM2 := hid hm2; clear hs2 hm2 hC))
        have hC := HC0.out
        have hs2 := HS2.out
        have hm2 := HM2.out
        clear HC0 HS2 HM2 c3 c4 hlt3 hwm
        have hs3 : sp2 + q = sp' + (s.steps + kz + k1) := hs2
        have hq3 : q = s.steps + kz := HQ.out
        have hsp2 : sp2 + pp ≤ mo2 := by omega
        have hmo2 : mo2 ≤ mo' + 5000 := by omega
        clear hs2 hm2 hs3 hq3 BM
        obtain ⟨k2, hk2⟩ : ∃ k2, k2 = k1 := ⟨_, rfl⟩
        subst hk2
        have HC := hid hC
        have HIC := hid (HI2.out.tk k2)
        obtain ⟨d0, d1, d2, _, _, _, _, _, _⟩ := hC.cells
        have hlC := hC.lt
        have LZ := hid hC.l1
        have AL := hid (fun w1 (k1 : Kept (fun _ => False) wC w1) => allC HIC.out.swap (by have := WZ.out; omega) ((Ex.start hC.is).plain k1).is (by show s.steps + kz + k2 ≤ _; omega))
        have CE := hid (fun w1 (lz : Lz (fun b => ¬ F b ∧ b ≠ pw) w1 _ L1) => cellsH (.slice va1 0 vc1) L1 w1 lz (by have := WZ.out; omega))
        rw [HRT.out] at AL d2
        clear hC C W3
        replace d2 : wC.cell? ⟨pw, 2, none⟩ = some (.int .i64 (-1)) := d2
        have dR := d2
        clear d1 d2
        go_upto_region 11 with fail
        refine wp_region_noPanic ?_
        refine wp_region_held_drew (S := (fun w' => w'.cell? ⟨pw, 0, none⟩ = some (.pointer (some ⟨pa, 0, none⟩)) ∧ w'.cell? ⟨pw, 2, none⟩ = some (.int .i64 (-1)))) (by kernel_rfl) ⟨d0, dR⟩ (fun hHeld => ?_)
        have KD := hid ((Kept.refl (fun _ => False) wC).drew)
        refine ord_take 0 71 (.slice va1 0 vc1) rfl rfl (by kernel_rfl) (by kernel_rfl) (by kernel_rfl) (fun _ _ _ h => h) (by rfl) (fun wS hS => by (try dsimp only at hS); go_split_ands; go_simp) (by assumption) ?_
        simp only [Act.put, List.setIfInBounds_toArray, List.set_cons_zero, List.set_cons_succ]
        refine ord_take 1 72 (.int .i64 0) rfl rfl (by kernel_rfl) (by kernel_rfl) (by kernel_rfl) (fun _ _ _ h => h) (by rfl) (fun wS hS => by (try dsimp only at hS); go_split_ands; go_simp) (by assumption) ?_
        simp only [Act.put, List.setIfInBounds_toArray, List.set_cons_zero, List.set_cons_succ]
        refine ord_take 2 73 (.bool true) rfl rfl (by kernel_rfl) (by kernel_rfl) (by kernel_rfl) (fun _ _ _ h => h) (by rfl) (fun wS hS => by (try dsimp only at hS); go_split_ands; go_simp) (by assumption) ?_
        simp only [Act.put, List.setIfInBounds_toArray, List.set_cons_zero, List.set_cons_succ]
        refine ord_take 3 74 (.bool true) rfl rfl (by kernel_rfl) (by kernel_rfl) (by kernel_rfl) (fun _ _ _ h => h) (by rfl) (fun wS hS => by (try dsimp only at hS); go_split_ands; go_simp) (by assumption) ?_
        simp only [Act.put, List.setIfInBounds_toArray, List.set_cons_zero, List.set_cons_succ]
        refine ord_take 4 75 (.int .i64 (-1)) rfl rfl (by kernel_rfl) (by kernel_rfl) (by kernel_rfl) (fun _ _ _ h => h) (by rfl) (fun wS hS => by (try dsimp only at hS); go_split_ands; go_simp) (by assumption) ?_
        simp only [Act.put, List.setIfInBounds_toArray, List.set_cons_zero, List.set_cons_succ]
        refine ord_take 5 76 (.bool false) rfl rfl (by kernel_rfl) (by kernel_rfl) (by kernel_rfl) (fun _ _ _ h => h) (by rfl) (fun wS hS => by (try dsimp only at hS); go_split_ands; go_simp) (by assumption) ?_
        simp only [Act.put, List.setIfInBounds_toArray, List.set_cons_zero, List.set_cons_succ]
        refine ord_take 6 77 (.bool false) rfl rfl (by kernel_rfl) (by kernel_rfl) (by kernel_rfl) (fun _ _ _ h => h) (by rfl) (fun wS hS => by (try dsimp only at hS); go_split_ands; go_simp) (by assumption) ?_
        simp only [Act.put, List.setIfInBounds_toArray, List.set_cons_zero, List.set_cons_succ]
        refine ord_take 7 78 (.pointer (some ⟨pw, 0, none⟩)) rfl rfl (by kernel_rfl) (by kernel_rfl) (by kernel_rfl) (fun _ _ _ h => h) (by rfl) (fun wS hS => by (try dsimp only at hS); go_split_ands; go_simp) (by assumption) ?_
        simp only [Act.put, List.setIfInBounds_toArray, List.set_cons_zero, List.set_cons_succ]
        refine ord_take 8 79 (.int .i64 1) rfl rfl (by kernel_rfl) (by kernel_rfl) (by kernel_rfl) (fun _ _ _ h => h) (by rfl) (fun wS hS => by (try dsimp only at hS); go_split_ands; go_simp) (by assumption) ?_
        simp only [Act.put, List.setIfInBounds_toArray, List.set_cons_zero, List.set_cons_succ]
        refine ord_take 9 80 (.pointer (some ⟨pw, 0, none⟩)) rfl rfl (by kernel_rfl) (by kernel_rfl) (by kernel_rfl) (fun _ _ _ h => h) (by rfl) (fun wS hS => by (try dsimp only at hS); go_split_ands; go_simp) (by assumption) ?_
        simp only [Act.put, List.setIfInBounds_toArray, List.set_cons_zero, List.set_cons_succ]
        refine ord_take 10 81 (.pointer (some ⟨pw, 1, none⟩)) rfl rfl (by kernel_rfl) (by kernel_rfl) (by kernel_rfl) (fun _ _ _ h => h) (by rfl) (fun wS hS => by (try dsimp only at hS); go_split_ands; go_simp) (by assumption) ?_
        simp only [Act.put, List.setIfInBounds_toArray, List.set_cons_zero, List.set_cons_succ]
        refine ord_take 11 82 (.pointer (some ⟨pw, 2, none⟩)) rfl rfl (by kernel_rfl) (by kernel_rfl) (by kernel_rfl) (fun _ _ _ h => h) (by rfl) (fun wS hS => by (try dsimp only at hS); go_split_ands; go_simp) (by assumption) ?_
        simp only [Act.put, List.setIfInBounds_toArray, List.set_cons_zero, List.set_cons_succ]
        refine ord_take 12 83 (.int .i64 (-1)) rfl rfl (by kernel_rfl) (by kernel_rfl) (by kernel_rfl) (fun _ _ _ h => h) (by rfl) (fun wS hS => by (try dsimp only at hS); go_split_ands; go_simp) (by assumption) ?_
        simp only [Act.put, List.setIfInBounds_toArray, List.set_cons_zero, List.set_cons_succ]
        refine ord_take 13 84 (.bool false) rfl rfl (by kernel_rfl) (by kernel_rfl) (by kernel_rfl) (fun _ _ _ h => h) (by rfl) (fun wS hS => by (try dsimp only at hS); go_split_ands; go_simp) (by assumption) ?_
        simp only [Act.put, List.setIfInBounds_toArray, List.set_cons_zero, List.set_cons_succ]
        refine ord_take 14 85 (.bool false) rfl rfl (by kernel_rfl) (by kernel_rfl) (by kernel_rfl) (fun _ _ _ h => h) (by rfl) (fun wS hS => by (try dsimp only at hS); go_split_ands; go_simp) (by assumption) ?_
        simp only [Act.put, List.setIfInBounds_toArray, List.set_cons_zero, List.set_cons_succ]
        refine ord_take 15 86 (.bool false) rfl rfl (by kernel_rfl) (by kernel_rfl) (by kernel_rfl) (fun _ _ _ h => h) (by rfl) (fun wS hS => by (try dsimp only at hS); go_split_ands; go_simp) (by assumption) ?_
        simp only [Act.put, List.setIfInBounds_toArray, List.set_cons_zero, List.set_cons_succ]
        refine ord_take 16 87 (.bool false) rfl rfl (by kernel_rfl) (by kernel_rfl) (by kernel_rfl) (fun _ _ _ h => h) (by rfl) (fun wS hS => by (try dsimp only at hS); go_split_ands; go_simp) (by assumption) ?_
        simp only [Act.put, List.setIfInBounds_toArray, List.set_cons_zero, List.set_cons_succ]
        refine ord_take 17 88 (.slice va1 0 vc1) rfl rfl (by kernel_rfl) (by kernel_rfl) (by kernel_rfl) (fun _ _ _ h => h) (by rfl) (fun wS hS => by (try dsimp only at hS); go_split_ands; go_simp) (by assumption) ?_
        simp only [Act.put, List.setIfInBounds_toArray, List.set_cons_zero, List.set_cons_succ]
        refine ord_take 18 89 (.int .i64 0) rfl rfl (by kernel_rfl) (by kernel_rfl) (by kernel_rfl) (fun _ _ _ h => h) (by rfl) (fun wS hS => by (try dsimp only at hS); go_split_ands; go_simp) (by assumption) ?_
        simp only [Act.put, List.setIfInBounds_toArray, List.set_cons_zero, List.set_cons_succ]
        refine ord_take 19 90 (.bool false) rfl rfl (by kernel_rfl) (by kernel_rfl) (by kernel_rfl) (fun _ _ _ h => h) (by rfl) (fun wS hS => by (try dsimp only at hS); go_split_ands; go_simp) (by assumption) ?_
        simp only [Act.put, List.setIfInBounds_toArray, List.set_cons_zero, List.set_cons_succ]
        refine ord_take 20 91 (.bool false) rfl rfl (by kernel_rfl) (by kernel_rfl) (by kernel_rfl) (fun _ _ _ h => h) (by rfl) (fun wS hS => by (try dsimp only at hS); go_split_ands; go_simp) (by assumption) ?_
        simp only [Act.put, List.setIfInBounds_toArray, List.set_cons_zero, List.set_cons_succ]
        refine ord_skip 21 92 rfl rfl (by kernel_rfl) (by kernel_rfl) (by kernel_rfl) (fun _ _ _ h => h) (by rfl) (by assumption) ?_
        simp only [Act.put, List.setIfInBounds_toArray, List.set_cons_zero, List.set_cons_succ]
        refine ord_skip 22 93 rfl rfl (by kernel_rfl) (by kernel_rfl) (by kernel_rfl) (fun _ _ _ h => h) (by rfl) (by assumption) ?_
        simp only [Act.put, List.setIfInBounds_toArray, List.set_cons_zero, List.set_cons_succ]
        refine ord_skip 23 94 rfl rfl (by kernel_rfl) (by kernel_rfl) (by kernel_rfl) (fun _ _ _ h => h) (by rfl) (by assumption) ?_
        simp only [Act.put, List.setIfInBounds_toArray, List.set_cons_zero, List.set_cons_succ]
        refine ord_skip 24 95 rfl rfl (by kernel_rfl) (by kernel_rfl) (by kernel_rfl) (fun _ _ _ h => h) (by rfl) (by assumption) ?_
        simp only [Act.put, List.setIfInBounds_toArray, List.set_cons_zero, List.set_cons_succ]
        refine ord_skip 25 96 rfl rfl (by kernel_rfl) (by kernel_rfl) (by kernel_rfl) (fun _ _ _ h => h) (by rfl) (by assumption) ?_
        simp only [Act.put, List.setIfInBounds_toArray, List.set_cons_zero, List.set_cons_succ]
        refine ord_skip 26 97 rfl rfl (by kernel_rfl) (by kernel_rfl) (by kernel_rfl) (fun _ _ _ h => h) (by rfl) (by assumption) ?_
        simp only [Act.put, List.setIfInBounds_toArray, List.set_cons_zero, List.set_cons_succ]
        refine ord_skip 27 98 rfl rfl (by kernel_rfl) (by kernel_rfl) (by kernel_rfl) (fun _ _ _ h => h) (by rfl) (by assumption) ?_
        simp only [Act.put, List.setIfInBounds_toArray, List.set_cons_zero, List.set_cons_succ]
        refine ord_skip 28 99 rfl rfl (by kernel_rfl) (by kernel_rfl) (by kernel_rfl) (fun _ _ _ h => h) (by rfl) (by assumption) ?_
        simp only [Act.put, List.setIfInBounds_toArray, List.set_cons_zero, List.set_cons_succ]
        have KE := KD
        refine ord_take 29 100 (.bool false) rfl rfl (by kernel_rfl) (by kernel_rfl) (by kernel_rfl) (fun _ _ _ h => h) (by rfl) (fun wS hS => by (try dsimp only at hS); go_split_ands; go_simp) (by assumption) ?_
        simp only [Act.put, List.setIfInBounds_toArray, List.set_cons_zero, List.set_cons_succ]
        refine ord_take 30 101 (.bool false) rfl rfl (by kernel_rfl) (by kernel_rfl) (by kernel_rfl) (fun _ _ _ h => h) (by rfl) (fun wS hS => by (try dsimp only at hS); go_split_ands; go_simp) (by assumption) ?_
        simp only [Act.put, List.setIfInBounds_toArray, List.set_cons_zero, List.set_cons_succ]
        refine ord_take 31 102 (.bool false) rfl rfl (by kernel_rfl) (by kernel_rfl) (by kernel_rfl) (fun _ _ _ h => h) (by rfl) (fun wS hS => by (try dsimp only at hS); go_split_ands; go_simp) (by assumption) ?_
        simp only [Act.put, List.setIfInBounds_toArray, List.set_cons_zero, List.set_cons_succ]
        refine ord_take 32 103 (.pointer (some ⟨pw, 0, none⟩)) rfl rfl (by kernel_rfl) (by kernel_rfl) (by kernel_rfl) (fun _ _ _ h => h) (by rfl) (fun wS hS => by (try dsimp only at hS); go_split_ands; go_simp) (by assumption) ?_
        simp only [Act.put, List.setIfInBounds_toArray, List.set_cons_zero, List.set_cons_succ]
        refine ord_take 33 104 (.pointer (some ⟨pw, 0, none⟩)) rfl rfl (by kernel_rfl) (by kernel_rfl) (by kernel_rfl) (fun _ _ _ h => h) (by rfl) (fun wS hS => by (try dsimp only at hS); go_split_ands; go_simp) (by assumption) ?_
        simp only [Act.put, List.setIfInBounds_toArray, List.set_cons_zero, List.set_cons_succ]
        refine ord_take 34 105 (.pointer (some ⟨pw, 0, none⟩)) rfl rfl (by kernel_rfl) (by kernel_rfl) (by kernel_rfl) (fun _ _ _ h => h) (by rfl) (fun wS hS => by (try dsimp only at hS); go_split_ands; go_simp) (by assumption) ?_
        simp only [Act.put, List.setIfInBounds_toArray, List.set_cons_zero, List.set_cons_succ]
        refine ord_take 35 106 (.pointer (some ⟨pa, 0, none⟩)) rfl rfl (by kernel_rfl) (by kernel_rfl) (by kernel_rfl) (fun _ _ _ h => h) (by rfl) (fun wS hS => by (try dsimp only at hS); go_split_ands; go_simp) (by assumption) ?_
        simp only [Act.put, List.setIfInBounds_toArray, List.set_cons_zero, List.set_cons_succ]
        refine ord_take 36 107 (.pointer (some ⟨pw, 0, none⟩)) rfl rfl (by kernel_rfl) (by kernel_rfl) (by kernel_rfl) (fun _ _ _ h => h) (by rfl) (fun wS hS => by (try dsimp only at hS); go_split_ands; go_simp) (by assumption) ?_
        simp only [Act.put, List.setIfInBounds_toArray, List.set_cons_zero, List.set_cons_succ]
        refine ord_take 37 108 (.int .i64 1) rfl rfl (by kernel_rfl) (by kernel_rfl) (by kernel_rfl) (fun _ _ _ h => h) (by rfl) (fun wS hS => by (try dsimp only at hS); go_split_ands; go_simp) (by assumption) ?_
        simp only [Act.put, List.setIfInBounds_toArray, List.set_cons_zero, List.set_cons_succ]
        refine ord_take 38 109 (.pointer (some ⟨pw, 0, none⟩)) rfl rfl (by kernel_rfl) (by kernel_rfl) (by kernel_rfl) (fun _ _ _ h => h) (by rfl) (fun wS hS => by (try dsimp only at hS); go_split_ands; go_simp) (by assumption) ?_
        simp only [Act.put, List.setIfInBounds_toArray, List.set_cons_zero, List.set_cons_succ]
        refine ord_take 39 110 (.pointer (some ⟨pw, 1, none⟩)) rfl rfl (by kernel_rfl) (by kernel_rfl) (by kernel_rfl) (fun _ _ _ h => h) (by rfl) (fun wS hS => by (try dsimp only at hS); go_split_ands; go_simp) (by assumption) ?_
        simp only [Act.put, List.setIfInBounds_toArray, List.set_cons_zero, List.set_cons_succ]
        refine ord_take 40 111 (.pointer (some ⟨pw, 2, none⟩)) rfl rfl (by kernel_rfl) (by kernel_rfl) (by kernel_rfl) (fun _ _ _ h => h) (by rfl) (fun wS hS => by (try dsimp only at hS); go_split_ands; go_simp) (by assumption) ?_
        simp only [Act.put, List.setIfInBounds_toArray, List.set_cons_zero, List.set_cons_succ]
        refine ord_take 41 112 (.int .i64 (-1)) rfl rfl (by kernel_rfl) (by kernel_rfl) (by kernel_rfl) (fun _ _ _ h => h) (by rfl) (fun wS hS => by (try dsimp only at hS); go_split_ands; go_simp) (by assumption) ?_
        simp only [Act.put, List.setIfInBounds_toArray, List.set_cons_zero, List.set_cons_succ]
        refine ord_take 43 114 (.slice va1 0 vc1) rfl rfl (by kernel_rfl) (by kernel_rfl) (by kernel_rfl) (fun _ _ _ h => h) (by rfl) (fun wS hS => by (try dsimp only at hS); go_split_ands; go_simp) (by assumption) ?_
        simp only [Act.put, List.setIfInBounds_toArray, List.set_cons_zero, List.set_cons_succ]
        have hlE := Nat.lt_of_lt_of_le hlC KE.out.size
        refine wpAnyH_ready (rs := [42]) (by kernel_rfl) (by simp) ?_
        refine AllReadyH.cons rfl (fun K hK => ?_) AllReadyH.nil
        go_simp
        refine (AL.out _ KE.out).mono ?_
        rintro e wG ⟨v3, m3, k3, rfl, o3, p3, q3, hk3, e3⟩
        have hlG := Nat.lt_of_lt_of_le hlE e3.kept.size
        replace d0 := (e3.kept.cell (p := ⟨pw, 0, none⟩) hlE NFp.out).trans d0
        replace dR := (e3.kept.cell (p := ⟨pw, 2, none⟩) hlE NFp.out).trans dR
        have O3 := hid o3
        have P3 := hid p3
        have Q3 := hid q3
        have E3 := hid e3
        obtain ⟨va3, vc3, rfl⟩ := own_form o3
        clear o3 p3 q3 e3
        go_wp2_with fail
        refine hK.out _ _ ⟨d0, dR⟩ (fun hHeld => ?_)
        clear hK K
        refine wpAnyH_ready (rs := [44]) (by kernel_rfl) (by simp) ?_
        refine AllReadyH.cons rfl (fun K hK => ?_) AllReadyH.nil
        go_simp
        refine (CE.out _ ((LZ.out.kept KE.out (fun _ _ e => e)).kept E3.out.kept (fun _ q => q.1))).mono ?_
        rintro e wH ⟨v4, m4, rfl, o4, p4, q4, k4⟩
        replace d0 := (k4.cell (p := ⟨pw, 0, none⟩) hlG (fun e => e)).trans d0
        replace dR := (k4.cell (p := ⟨pw, 2, none⟩) hlG (fun e => e)).trans dR
        have O4 := hid o4
        have P4 := hid p4
        have Q4 := hid q4
        have K4 := hid k4
        obtain ⟨va4, vc4, rfl⟩ := own_form o4
        clear o4 p4 q4 k4
        go_wp2_with fail
        refine hK.out _ _ ⟨d0, dR⟩ (fun hHeld => ?_)
        clear hK K
        refine wpAnyH_ready (rs := [45]) (by kernel_rfl) (by simp) ?_
        refine AllReadyH.cons rfl (fun K hK => ?_) AllReadyH.nil
        go_simp
        refine (sameN _ _ m3 m4 (sort_uniq (P3.out.trans (GD.out.pm.symm.trans P4.out.symm)) Q3.out Q4.out) (by rw [P3.out.length_eq]; have := WZ.out; have := TS.out (tk (tk s kz) k2); omega) _ (own_plain (own_base O3.out (Nat.zero_le _)) K4.out) (own_base O4.out (Nat.zero_le _))).mono ?_
        rintro e wI ⟨rfl, nI, rfl⟩
        go_wp2_with fail
        refine hK.out _ _ ⟨d0, dR⟩ (fun hHeld => ?_)
        clear hK K
        refine ord_take 46 117 (.bool false) rfl rfl (by kernel_rfl) (by kernel_rfl) (by kernel_rfl) (fun _ _ _ h => h) (by rfl) (fun wS hS => by (try dsimp only at hS); go_split_ands; go_simp) (by assumption) ?_
        simp only [Act.put, List.setIfInBounds_toArray, List.set_cons_zero, List.set_cons_succ]
        refine ord_take 47 118 (.bool false) rfl rfl (by kernel_rfl) (by kernel_rfl) (by kernel_rfl) (fun _ _ _ h => h) (by rfl) (fun wS hS => by (try dsimp only at hS); go_split_ands; go_simp) (by assumption) ?_
        simp only [Act.put, List.setIfInBounds_toArray, List.set_cons_zero, List.set_cons_succ]
        refine ord_take 48 119 (.bool false) rfl rfl (by kernel_rfl) (by kernel_rfl) (by kernel_rfl) (fun _ _ _ h => h) (by rfl) (fun wS hS => by (try dsimp only at hS); go_split_ands; go_simp) (by assumption) ?_
        simp only [Act.put, List.setIfInBounds_toArray, List.set_cons_zero, List.set_cons_succ]
        refine ord_take 49 120 (.pointer (some ⟨pw, 0, none⟩)) rfl rfl (by kernel_rfl) (by kernel_rfl) (by kernel_rfl) (fun _ _ _ h => h) (by rfl) (fun wS hS => by (try dsimp only at hS); go_split_ands; go_simp) (by assumption) ?_
        simp only [Act.put, List.setIfInBounds_toArray, List.set_cons_zero, List.set_cons_succ]
        refine ord_take 50 121 (.int .i64 1) rfl rfl (by kernel_rfl) (by kernel_rfl) (by kernel_rfl) (fun _ _ _ h => h) (by rfl) (fun wS hS => by (try dsimp only at hS); go_split_ands; go_simp) (by assumption) ?_
        simp only [Act.put, List.setIfInBounds_toArray, List.set_cons_zero, List.set_cons_succ]
        have WI := hid (((((HC.out.plain KE.out).ex E3.out).plain K4.out).drewN nI))
        have SP := hid (shape1 WI.out (HIC.out.tk k3) (by have := WZ.out; omega) (by show s.steps + kz + k2 + k3 ≤ _; have := WZ.out; have := TS.out (tk (tk s kz) k2); omega))
        have hlI := WI.out.lt
        refine wpAnyH_ready (rs := [51]) (by kernel_rfl) (by simp) ?_
        refine AllReadyH.cons rfl (fun K hK => ?_) AllReadyH.nil
        go_simp
        refine SP.out.mono ?_
        rintro e wJ ⟨rfl, k5, hk5, e5⟩
        replace d0 := (e5.kept.cell (p := ⟨pw, 0, none⟩) hlI NFp.out).trans d0
        replace dR := (e5.kept.cell (p := ⟨pw, 2, none⟩) hlI NFp.out).trans dR
        have WJ := hid (WI.out.ex e5)
        clear e5
        go_wp2_with fail
        refine hK.out _ _ ⟨d0, dR⟩ (fun hHeld => ?_)
        clear hK K
        refine ord_take 52 123 (.bool false) rfl rfl (by kernel_rfl) (by kernel_rfl) (by kernel_rfl) (fun _ _ _ h => h) (by rfl) (fun wS hS => by (try dsimp only at hS); go_split_ands; go_simp) (by assumption) ?_
        simp only [Act.put, List.setIfInBounds_toArray, List.set_cons_zero, List.set_cons_succ]
        refine ord_take 53 124 (.bool false) rfl rfl (by kernel_rfl) (by kernel_rfl) (by kernel_rfl) (fun _ _ _ h => h) (by rfl) (fun wS hS => by (try dsimp only at hS); go_split_ands; go_simp) (by assumption) ?_
        simp only [Act.put, List.setIfInBounds_toArray]
        refine wpAnyH_done (by kernel_rfl) ?_ _
        refine NoPanic.normal ?_
        clear d0 dR
        go_wp2
        go_roundw
        case rel => exact ⟨2, kz + k2 + k3 + k5, sp2, mo2, by go_num, by omega, by have := WZ.out; have := TS.out (tk (tk s kz) k2); omega, hsp2, by omega, by rw [← tk_tk, ← tk_tk, ← tk_tk]; have z := WJ.out; rw [HLE.out] at z; exact z⟩
        case measure => simp [intOf]

      · have HW := hid hw
        have HI2 := hid (HI.out.tk kz)
        obtain ⟨c0, c1, c2, c3, c4, c5, c6, c7, cf⟩ := hw.cells
        have hlt := hw.lt
        have M := hid (meterA pa pm (tk s kz) F wr hw.is)
        have T := hid (stepsA pa pm (tk s kz) F wr hw.is)
        have NFp := hid hw.out
        have hll : n1 ≤ 700 := hl1
        have WZ := hid (show L1.length = n1 from HN1.out.symm)
        have GD := hid HI2.out.b
        have TS := hid (fun s' => (show (its s' u).length ≤ 700 by unfold its; rw [size_items, GD.out.len, WZ.out]; exact hll))
        obtain ⟨q, hq⟩ : ∃ q, q = (tk s kz).steps := ⟨_, rfl⟩
        rw [← hq] at T
        have HQ := hid hq
        have hq1 : q ≤ 60090000 := by rw [hq]; show s.steps + kz ≤ _; omega
        clear hw c5 c6 c7 cf hq
        obtain ⟨len, hlen⟩ : ∃ len, len = n1 := ⟨_, rfl⟩
        rw [← hlen] at c4 hll WZ HW
        have HLE := hid hlen
        obtain ⟨x, hx⟩ := lst_some (fun e => ht (GD.out.none.2 e))
        obtain ⟨i, hxi⟩ : ∃ i, x.1 = i := ⟨_, rfl⟩
        have MI := hid (fun w1 (k1 : Kept (fun _ => False) wr w1) => (minC HI2.out.swap (by show s.steps + kz ≤ _; omega) ((Ex.start HW.out.is).plain k1)).mono fun e w' h => (show e = .returned (.int .i64 (i : Int)) ∧ ∃ k, k ≤ 200 ∧ Ex F wr w' pa pm (tk (tk s kz) k) from by
          obtain ⟨m, he, h1, h2, k, hk, hx'⟩ := h
          exact ⟨by rw [he, h2 x hx, hxi], k, hk, hx'⟩))
        obtain ⟨k, hk'⟩ : ∃ k, k = lstS L1 (L1.length - 1) := ⟨_, rfl⟩
        rw [← hk'] at hx
        have HKK := hid hk'
        have HX := hid hx
        have HXI := hid hxi
        have hkl : k < len := by have := (List.getElem?_eq_some_iff.1 hx).1; have := WZ.out; omega
        have hlen1 : ((len : Int) == 0) = false := by simp; omega
        have hlen2 : ¬ len = 0 := by omega
        have hlen3 : 0 < len := by omega
        have hkl' : (k : Int) < (len : Int) := by omega
        have HT := hid ht
        clear hk' hx hxi ht
        clear hlen
        go_wp2_with fail
        refine M.out.mono ?_
        rintro e wA ⟨rfl, rfl⟩
        go_wp2_with fail
        refine T.out.mono ?_
        rintro e wB ⟨rfl, rfl⟩
        clear M T
        go_wp2_with fail
        go_region_held3 (fun w' => w'.cell? ⟨pw, 0, none⟩ = some (.pointer (some ⟨pa, 0, none⟩)) ∧ w'.cell? ⟨pw, 2, none⟩ = some (.int .i64 (headr u))) (first | exact ⟨c0, c2⟩ | (simp [go_sem]; exact ⟨c0, c2⟩))
          (first
            | (go_at_call 8; refine (MI.out _ (by first | exact Kept.refl _ _ | exact (Kept.refl _ _).drew | exact (Kept.refl _ _).drewN _)).mono ?_; rintro e w3 ⟨rfl, k1, hk1, e3⟩; replace c0 := (e3.kept.cell (p := ⟨pw, 0, none⟩) hlt NFp.out).trans c0; replace c2 := (e3.kept.cell (p := ⟨pw, 2, none⟩) hlt NFp.out).trans c2; have E3 := hid e3; clear e3))
        have W3 := hid (HW.out.ex E3.out)
        obtain ⟨mm, hmm⟩ : ∃ mm : Nat, mm = n0 + len := ⟨_, rfl⟩
        have hsum : (n0 : Int) + (len : Int) = (mm : Int) := by omega
        have hmm2 : mm ≤ 1400 := by omega
        clear hmm
        have hwm : IntKind.i64.wrap (mm : Int) = (mm : Int) := IntWalk.i64_in _ (by omega)
        have BM := bts_le 11 mm (by omega)
        have C := hid (fun w1 (k1' : Kept (fun _ => False) w3 w1) => costW mm q sp' mo' (by omega) (W3.out.plain k1') (by rw [HQ.out]; show _ ≤ s.steps + kz + k1; show s.steps + kz ≤ _; omega) (by show s.steps + kz + k1 ≤ _; omega) (by omega) (by have h1 : q = s.steps + kz := HQ.out; show sp' + (s.steps + kz + k1) ≤ _; omega))
        clear c0 c1 c2 c3 c4 MI E3 HW
        obtain ⟨_, _, _, c3, c4, _, _, _, _⟩ := W3.out.cells
        have hlt3 := W3.out.lt
        go_wp2_with fail
        go_region_held3 (fun w' => w'.cell? ⟨pw, 3, none⟩ = some (.slice va0 n0 vc0) ∧ w'.cell? ⟨pw, 4, none⟩ = some (.slice va1 len vc1)) (first | exact ⟨c3, c4⟩)
          (first
            | (go_at_call 22; refine (C.out _ (by first | exact Kept.refl _ _ | exact (Kept.refl _ _).drew | exact (Kept.refl _ _).drewN _)).mono ?_; rintro e wC ⟨rfl, sp2, mo2, hs2, hm2, hC⟩; replace c3 := hC.cells.2.2.2.1; replace c4 := hC.cells.2.2.2.2.1; have HC0 := hid hC; have HS2 := hid hs2; have HM2 := hid hm2; clear hs2 hm2 hC))
        have hC := HC0.out
        have hs2 := HS2.out
        have hm2 := HM2.out
        clear HC0 HS2 HM2 c3 c4 hlt3 hwm hsum
        have hs3 : sp2 + q = sp' + (s.steps + kz + k1) := hs2
        have hq3 : q = s.steps + kz := HQ.out
        have hsp2 : sp2 + pp ≤ mo2 := by omega
        have hmo2 : mo2 ≤ mo' + 5000 := by omega
        clear hs2 hm2 hs3 hq3 BM
        obtain ⟨k2, hk2⟩ : ∃ k2, k2 = k1 := ⟨_, rfl⟩
        subst hk2
        have HC := hid hC
        have HIC := hid (HI2.out.tk k2)
        obtain ⟨d0, d1, d2, _, _, _, _, _, _⟩ := hC.cells
        have hlC := hC.lt
        have LZ := hid hC.l1
        have AL := hid (fun w1 (k1 : Kept (fun _ => False) wC w1) => allC HIC.out.swap (by have := WZ.out; omega) ((Ex.start hC.is).plain k1).is (by show s.steps + kz + k2 ≤ _; omega))
        have CE := hid (fun w1 (lz : Lz (fun b => ¬ F b ∧ b ≠ pw) w1 _ L1) => cellsH (.slice va1 len vc1) L1 w1 lz (by have := WZ.out; omega))
        obtain ⟨b, cap, eb, _, hbC, hPb, dx, _, _⟩ := hC.l1.at HX.out
        rw [HXI.out] at dx
        obtain rfl : va1 = some ⟨b, 0, none⟩ := by injection eb
        have NFb := hid hPb.1
        have LE := hid (fun w1 (k1 : Kept (fun _ => False) wC w1) => leastH (.slice (some ⟨b, 0, none⟩) len vc1) L1 w1 (hC.l1.kept k1 fun _ _ e => e) (by have := WZ.out; omega))
        rw [← HKK.out] at LE
        clear eb hPb
        clear hC C W3
        replace d2 : wC.cell? ⟨pw, 2, none⟩ = some (.int .i64 (headr u)) := d2
        have dR := d2
        clear d1 d2
        go_upto_region 11 with fail
        refine wp_region_noPanic ?_
        refine wp_region_held_drew (S := (fun w' => w'.cell? ⟨pw, 0, none⟩ = some (.pointer (some ⟨pa, 0, none⟩)) ∧ w'.cell? ⟨pw, 2, none⟩ = some (.int .i64 (headr u)) ∧ w'.cell? ⟨b, k * 3, none⟩ = some (.int .i64 (i : Int)))) (by kernel_rfl) ⟨d0, dR, dx⟩ (fun hHeld => ?_)
        have KD := hid ((Kept.refl (fun _ => False) wC).drew)
        refine ord_take 0 71 (.slice (some ⟨b, 0, none⟩) len vc1) rfl rfl (by kernel_rfl) (by kernel_rfl) (by kernel_rfl) (fun _ _ _ h => h) (by rfl) (fun wS hS => by (try dsimp only at hS); go_split_ands; go_simp) (by assumption) ?_
        simp only [Act.put, List.setIfInBounds_toArray, List.set_cons_zero, List.set_cons_succ]
        refine ord_take 1 72 (.int .i64 (len : Int)) rfl rfl (by kernel_rfl) (by kernel_rfl) (by kernel_rfl) (fun _ _ _ h => h) (by rfl) (fun wS hS => by (try dsimp only at hS); go_split_ands; go_simp) (by assumption) ?_
        simp only [Act.put, List.setIfInBounds_toArray, List.set_cons_zero, List.set_cons_succ]
        refine ord_take 2 73 (.bool false) rfl rfl (by kernel_rfl) (by kernel_rfl) (by kernel_rfl) (fun _ _ _ h => h) (by rfl) (fun wS hS => by (try dsimp only at hS); go_split_ands; go_simp) (by assumption) ?_
        simp only [Act.put, List.setIfInBounds_toArray, List.set_cons_zero, List.set_cons_succ]
        refine ord_take 3 74 (.bool false) rfl rfl (by kernel_rfl) (by kernel_rfl) (by kernel_rfl) (fun _ _ _ h => h) (by rfl) (fun wS hS => by (try dsimp only at hS); go_split_ands; go_simp) (by assumption) ?_
        simp only [Act.put, List.setIfInBounds_toArray, List.set_cons_zero, List.set_cons_succ]
        refine ord_skip 4 75 rfl rfl (by kernel_rfl) (by kernel_rfl) (by kernel_rfl) (fun _ _ _ h => h) (by rfl) (by assumption) ?_
        simp only [Act.put, List.setIfInBounds_toArray, List.set_cons_zero, List.set_cons_succ]
        refine ord_skip 5 76 rfl rfl (by kernel_rfl) (by kernel_rfl) (by kernel_rfl) (fun _ _ _ h => h) (by rfl) (by assumption) ?_
        simp only [Act.put, List.setIfInBounds_toArray, List.set_cons_zero, List.set_cons_succ]
        refine ord_skip 6 77 rfl rfl (by kernel_rfl) (by kernel_rfl) (by kernel_rfl) (fun _ _ _ h => h) (by rfl) (by assumption) ?_
        simp only [Act.put, List.setIfInBounds_toArray, List.set_cons_zero, List.set_cons_succ]
        refine ord_skip 7 78 rfl rfl (by kernel_rfl) (by kernel_rfl) (by kernel_rfl) (fun _ _ _ h => h) (by rfl) (by assumption) ?_
        simp only [Act.put, List.setIfInBounds_toArray, List.set_cons_zero, List.set_cons_succ]
        refine ord_skip 8 79 rfl rfl (by kernel_rfl) (by kernel_rfl) (by kernel_rfl) (fun _ _ _ h => h) (by rfl) (by assumption) ?_
        simp only [Act.put, List.setIfInBounds_toArray, List.set_cons_zero, List.set_cons_succ]
        refine ord_skip 9 80 rfl rfl (by kernel_rfl) (by kernel_rfl) (by kernel_rfl) (fun _ _ _ h => h) (by rfl) (by assumption) ?_
        simp only [Act.put, List.setIfInBounds_toArray, List.set_cons_zero, List.set_cons_succ]
        refine ord_skip 10 81 rfl rfl (by kernel_rfl) (by kernel_rfl) (by kernel_rfl) (fun _ _ _ h => h) (by rfl) (by assumption) ?_
        simp only [Act.put, List.setIfInBounds_toArray, List.set_cons_zero, List.set_cons_succ]
        refine ord_skip 11 82 rfl rfl (by kernel_rfl) (by kernel_rfl) (by kernel_rfl) (fun _ _ _ h => h) (by rfl) (by assumption) ?_
        simp only [Act.put, List.setIfInBounds_toArray, List.set_cons_zero, List.set_cons_succ]
        refine ord_skip 12 83 rfl rfl (by kernel_rfl) (by kernel_rfl) (by kernel_rfl) (fun _ _ _ h => h) (by rfl) (by assumption) ?_
        simp only [Act.put, List.setIfInBounds_toArray, List.set_cons_zero, List.set_cons_succ]
        refine ord_skip 13 84 rfl rfl (by kernel_rfl) (by kernel_rfl) (by kernel_rfl) (fun _ _ _ h => h) (by rfl) (by assumption) ?_
        simp only [Act.put, List.setIfInBounds_toArray, List.set_cons_zero, List.set_cons_succ]
        refine ord_skip 14 85 rfl rfl (by kernel_rfl) (by kernel_rfl) (by kernel_rfl) (fun _ _ _ h => h) (by rfl) (by assumption) ?_
        simp only [Act.put, List.setIfInBounds_toArray, List.set_cons_zero, List.set_cons_succ]
        refine ord_take 15 86 (.bool false) rfl rfl (by kernel_rfl) (by kernel_rfl) (by kernel_rfl) (fun _ _ _ h => h) (by rfl) (fun wS hS => by (try dsimp only at hS); go_split_ands; go_simp) (by assumption) ?_
        simp only [Act.put, List.setIfInBounds_toArray, List.set_cons_zero, List.set_cons_succ]
        refine ord_take 16 87 (.bool false) rfl rfl (by kernel_rfl) (by kernel_rfl) (by kernel_rfl) (fun _ _ _ h => h) (by rfl) (fun wS hS => by (try dsimp only at hS); go_split_ands; go_simp) (by assumption) ?_
        simp only [Act.put, List.setIfInBounds_toArray, List.set_cons_zero, List.set_cons_succ]
        refine ord_take 17 88 (.slice (some ⟨b, 0, none⟩) len vc1) rfl rfl (by kernel_rfl) (by kernel_rfl) (by kernel_rfl) (fun _ _ _ h => h) (by rfl) (fun wS hS => by (try dsimp only at hS); go_split_ands; go_simp) (by assumption) ?_
        simp only [Act.put, List.setIfInBounds_toArray, List.set_cons_zero, List.set_cons_succ]
        refine ord_take 18 89 (.int .i64 (len : Int)) rfl rfl (by kernel_rfl) (by kernel_rfl) (by kernel_rfl) (fun _ _ _ h => h) (by rfl) (fun wS hS => by (try dsimp only at hS); go_split_ands; go_simp) (by assumption) ?_
        simp only [Act.put, List.setIfInBounds_toArray, List.set_cons_zero, List.set_cons_succ]
        refine ord_take 19 90 (.bool true) rfl rfl (by kernel_rfl) (by kernel_rfl) (by kernel_rfl) (fun _ _ _ h => h) (by rfl) (fun wS hS => by (try dsimp only at hS); go_split_ands; go_simp) (by assumption) ?_
        simp only [Act.put, List.setIfInBounds_toArray, List.set_cons_zero, List.set_cons_succ]
        refine ord_take 20 91 (.bool true) rfl rfl (by kernel_rfl) (by kernel_rfl) (by kernel_rfl) (fun _ _ _ h => h) (by rfl) (fun wS hS => by (try dsimp only at hS); go_split_ands; go_simp) (by assumption) ?_
        simp only [Act.put, List.setIfInBounds_toArray, List.set_cons_zero, List.set_cons_succ]
        refine ord_take 21 92 (.int .i64 (i : Int)) rfl rfl (by kernel_rfl) (by kernel_rfl) (by kernel_rfl) (fun _ _ _ h => h) (by rfl) (fun wS hS => by (try dsimp only at hS); go_split_ands; go_simp) (by assumption) ?_
        simp only [Act.put, List.setIfInBounds_toArray, List.set_cons_zero, List.set_cons_succ]
        refine ord_take 22 93 (.slice (some ⟨b, 0, none⟩) len vc1) rfl rfl (by kernel_rfl) (by kernel_rfl) (by kernel_rfl) (fun _ _ _ h => h) (by rfl) (fun wS hS => by (try dsimp only at hS); go_split_ands; go_simp) (by assumption) ?_
        simp only [Act.put, List.setIfInBounds_toArray, List.set_cons_zero, List.set_cons_succ]
        refine ord_take 23 94 (.slice (some ⟨b, 0, none⟩) len vc1) rfl rfl (by kernel_rfl) (by kernel_rfl) (by kernel_rfl) (fun _ _ _ h => h) (by rfl) (fun wS hS => by (try dsimp only at hS); go_split_ands; go_simp) (by assumption) ?_
        simp only [Act.put, List.setIfInBounds_toArray, List.set_cons_zero, List.set_cons_succ]
        refine wpAnyH_ready (rs := [24]) (by kernel_rfl) (by simp) ?_
        refine AllReadyH.cons rfl (fun K hK => ?_) AllReadyH.nil
        go_simp
        refine (LE.out _ KD.out).mono ?_
        rintro e wE ⟨rfl, kE⟩
        have KE := hid (KD.out.trans' kE)
        replace d0 := (kE.cell (p := ⟨pw, 0, none⟩) hlC (fun e => e)).trans d0
        replace dR := (kE.cell (p := ⟨pw, 2, none⟩) hlC (fun e => e)).trans dR
        replace dx := (kE.cell (p := ⟨b, k * 3, none⟩) hbC (fun e => e)).trans dx
        clear kE
        go_wp2_with fail
        refine hK.out _ _ ⟨d0, dR, dx⟩ (fun hHeld => ?_)
        clear hK K
        refine ord_take 25 96 (.pointer (some ⟨b, k * 3, none⟩)) rfl rfl (by kernel_rfl) (by kernel_rfl) (by kernel_rfl) (fun _ _ _ h => h) (by rfl) (fun wS hS => by (try dsimp only at hS); go_split_ands; go_simp) (by assumption) ?_
        simp only [Act.put, List.setIfInBounds_toArray, List.set_cons_zero, List.set_cons_succ]
        refine ord_take 26 97 (.pointer (some ⟨b, k * 3, none⟩)) rfl rfl (by kernel_rfl) (by kernel_rfl) (by kernel_rfl) (fun _ _ _ h => h) (by rfl) (fun wS hS => by (try dsimp only at hS); go_split_ands; go_simp) (by assumption) ?_
        simp only [Act.put, List.setIfInBounds_toArray, List.set_cons_zero, List.set_cons_succ]
        refine ord_take 27 98 (.int .i64 (i : Int)) rfl rfl (by kernel_rfl) (by kernel_rfl) (by kernel_rfl) (fun _ _ _ h => h) (by rfl) (fun wS hS => by (try dsimp only at hS); go_split_ands; go_simp) (by assumption) ?_
        simp only [Act.put, List.setIfInBounds_toArray, List.set_cons_zero, List.set_cons_succ]
        refine ord_take 28 99 (.bool false) rfl rfl (by kernel_rfl) (by kernel_rfl) (by kernel_rfl) (fun _ _ _ h => h) (by rfl) (fun wS hS => by (try dsimp only at hS); go_split_ands; go_simp) (by assumption) ?_
        simp only [Act.put, List.setIfInBounds_toArray, List.set_cons_zero, List.set_cons_succ]
        refine ord_take 29 100 (.bool false) rfl rfl (by kernel_rfl) (by kernel_rfl) (by kernel_rfl) (fun _ _ _ h => h) (by rfl) (fun wS hS => by (try dsimp only at hS); go_split_ands; go_simp) (by assumption) ?_
        simp only [Act.put, List.setIfInBounds_toArray, List.set_cons_zero, List.set_cons_succ]
        refine ord_take 30 101 (.bool false) rfl rfl (by kernel_rfl) (by kernel_rfl) (by kernel_rfl) (fun _ _ _ h => h) (by rfl) (fun wS hS => by (try dsimp only at hS); go_split_ands; go_simp) (by assumption) ?_
        simp only [Act.put, List.setIfInBounds_toArray, List.set_cons_zero, List.set_cons_succ]
        refine ord_take 31 102 (.bool false) rfl rfl (by kernel_rfl) (by kernel_rfl) (by kernel_rfl) (fun _ _ _ h => h) (by rfl) (fun wS hS => by (try dsimp only at hS); go_split_ands; go_simp) (by assumption) ?_
        simp only [Act.put, List.setIfInBounds_toArray, List.set_cons_zero, List.set_cons_succ]
        refine ord_take 32 103 (.pointer (some ⟨pw, 0, none⟩)) rfl rfl (by kernel_rfl) (by kernel_rfl) (by kernel_rfl) (fun _ _ _ h => h) (by rfl) (fun wS hS => by (try dsimp only at hS); go_split_ands; go_simp) (by assumption) ?_
        simp only [Act.put, List.setIfInBounds_toArray, List.set_cons_zero, List.set_cons_succ]
        refine ord_take 33 104 (.pointer (some ⟨pw, 0, none⟩)) rfl rfl (by kernel_rfl) (by kernel_rfl) (by kernel_rfl) (fun _ _ _ h => h) (by rfl) (fun wS hS => by (try dsimp only at hS); go_split_ands; go_simp) (by assumption) ?_
        simp only [Act.put, List.setIfInBounds_toArray, List.set_cons_zero, List.set_cons_succ]
        refine ord_take 34 105 (.pointer (some ⟨pw, 0, none⟩)) rfl rfl (by kernel_rfl) (by kernel_rfl) (by kernel_rfl) (fun _ _ _ h => h) (by rfl) (fun wS hS => by (try dsimp only at hS); go_split_ands; go_simp) (by assumption) ?_
        simp only [Act.put, List.setIfInBounds_toArray, List.set_cons_zero, List.set_cons_succ]
        refine ord_take 35 106 (.pointer (some ⟨pa, 0, none⟩)) rfl rfl (by kernel_rfl) (by kernel_rfl) (by kernel_rfl) (fun _ _ _ h => h) (by rfl) (fun wS hS => by (try dsimp only at hS); go_split_ands; go_simp) (by assumption) ?_
        simp only [Act.put, List.setIfInBounds_toArray, List.set_cons_zero, List.set_cons_succ]
        refine ord_take 36 107 (.pointer (some ⟨pw, 0, none⟩)) rfl rfl (by kernel_rfl) (by kernel_rfl) (by kernel_rfl) (fun _ _ _ h => h) (by rfl) (fun wS hS => by (try dsimp only at hS); go_split_ands; go_simp) (by assumption) ?_
        simp only [Act.put, List.setIfInBounds_toArray, List.set_cons_zero, List.set_cons_succ]
        refine ord_take 37 108 (.int .i64 1) rfl rfl (by kernel_rfl) (by kernel_rfl) (by kernel_rfl) (fun _ _ _ h => h) (by rfl) (fun wS hS => by (try dsimp only at hS); go_split_ands; go_simp) (by assumption) ?_
        simp only [Act.put, List.setIfInBounds_toArray, List.set_cons_zero, List.set_cons_succ]
        refine ord_take 38 109 (.pointer (some ⟨pw, 0, none⟩)) rfl rfl (by kernel_rfl) (by kernel_rfl) (by kernel_rfl) (fun _ _ _ h => h) (by rfl) (fun wS hS => by (try dsimp only at hS); go_split_ands; go_simp) (by assumption) ?_
        simp only [Act.put, List.setIfInBounds_toArray, List.set_cons_zero, List.set_cons_succ]
        refine ord_take 39 110 (.pointer (some ⟨pw, 1, none⟩)) rfl rfl (by kernel_rfl) (by kernel_rfl) (by kernel_rfl) (fun _ _ _ h => h) (by rfl) (fun wS hS => by (try dsimp only at hS); go_split_ands; go_simp) (by assumption) ?_
        simp only [Act.put, List.setIfInBounds_toArray, List.set_cons_zero, List.set_cons_succ]
        refine ord_take 40 111 (.pointer (some ⟨pw, 2, none⟩)) rfl rfl (by kernel_rfl) (by kernel_rfl) (by kernel_rfl) (fun _ _ _ h => h) (by rfl) (fun wS hS => by (try dsimp only at hS); go_split_ands; go_simp) (by assumption) ?_
        simp only [Act.put, List.setIfInBounds_toArray, List.set_cons_zero, List.set_cons_succ]
        refine ord_take 41 112 (.int .i64 (headr u)) rfl rfl (by kernel_rfl) (by kernel_rfl) (by kernel_rfl) (fun _ _ _ h => h) (by rfl) (fun wS hS => by (try dsimp only at hS); go_split_ands; go_simp) (by assumption) ?_
        simp only [Act.put, List.setIfInBounds_toArray, List.set_cons_zero, List.set_cons_succ]
        refine ord_take 43 114 (.slice (some ⟨b, 0, none⟩) len vc1) rfl rfl (by kernel_rfl) (by kernel_rfl) (by kernel_rfl) (fun _ _ _ h => h) (by rfl) (fun wS hS => by (try dsimp only at hS); go_split_ands; go_simp) (by assumption) ?_
        simp only [Act.put, List.setIfInBounds_toArray, List.set_cons_zero, List.set_cons_succ]
        have hlE := Nat.lt_of_lt_of_le hlC KE.out.size
        have hbE := Nat.lt_of_lt_of_le hbC KE.out.size
        refine wpAnyH_ready (rs := [42]) (by kernel_rfl) (by simp) ?_
        refine AllReadyH.cons rfl (fun K hK => ?_) AllReadyH.nil
        go_simp
        refine (AL.out _ KE.out).mono ?_
        rintro e wG ⟨v3, m3, k3, rfl, o3, p3, q3, hk3, e3⟩
        have hlG := Nat.lt_of_lt_of_le hlE e3.kept.size
        have hbG := Nat.lt_of_lt_of_le hbE e3.kept.size
        replace d0 := (e3.kept.cell (p := ⟨pw, 0, none⟩) hlE NFp.out).trans d0
        replace dR := (e3.kept.cell (p := ⟨pw, 2, none⟩) hlE NFp.out).trans dR
        replace dx := (e3.kept.cell (p := ⟨b, k * 3, none⟩) hbE NFb.out).trans dx
        have O3 := hid o3
        have P3 := hid p3
        have Q3 := hid q3
        have E3 := hid e3
        obtain ⟨va3, vc3, rfl⟩ := own_form o3
        clear o3 p3 q3 e3
        go_wp2_with fail
        refine hK.out _ _ ⟨d0, dR, dx⟩ (fun hHeld => ?_)
        clear hK K
        refine wpAnyH_ready (rs := [44]) (by kernel_rfl) (by simp) ?_
        refine AllReadyH.cons rfl (fun K hK => ?_) AllReadyH.nil
        go_simp
        refine (CE.out _ ((LZ.out.kept KE.out (fun _ _ e => e)).kept E3.out.kept (fun _ q => q.1))).mono ?_
        rintro e wH ⟨v4, m4, rfl, o4, p4, q4, k4⟩
        replace d0 := (k4.cell (p := ⟨pw, 0, none⟩) hlG (fun e => e)).trans d0
        replace dR := (k4.cell (p := ⟨pw, 2, none⟩) hlG (fun e => e)).trans dR
        replace dx := (k4.cell (p := ⟨b, k * 3, none⟩) hbG (fun e => e)).trans dx
        have O4 := hid o4
        have P4 := hid p4
        have Q4 := hid q4
        have K4 := hid k4
        obtain ⟨va4, vc4, rfl⟩ := own_form o4
        clear o4 p4 q4 k4
        go_wp2_with fail
        refine hK.out _ _ ⟨d0, dR, dx⟩ (fun hHeld => ?_)
        clear hK K
        refine wpAnyH_ready (rs := [45]) (by kernel_rfl) (by simp) ?_
        refine AllReadyH.cons rfl (fun K hK => ?_) AllReadyH.nil
        go_simp
        refine (sameN _ _ m3 m4 (sort_uniq (P3.out.trans (GD.out.pm.symm.trans P4.out.symm)) Q3.out Q4.out) (by rw [P3.out.length_eq]; have := WZ.out; have := TS.out (tk (tk s kz) k2); omega) _ (own_plain (own_base O3.out (Nat.zero_le _)) K4.out) (own_base O4.out (Nat.zero_le _))).mono ?_
        rintro e wI ⟨rfl, nI, rfl⟩
        go_wp2_with fail
        refine hK.out _ _ ⟨d0, dR, dx⟩ (fun hHeld => ?_)
        clear hK K
        refine ord_take 46 117 (.bool false) rfl rfl (by kernel_rfl) (by kernel_rfl) (by kernel_rfl) (fun _ _ _ h => h) (by rfl) (fun wS hS => by (try dsimp only at hS); go_split_ands; go_simp) (by assumption) ?_
        simp only [Act.put, List.setIfInBounds_toArray, List.set_cons_zero, List.set_cons_succ]
        refine ord_take 47 118 (.bool false) rfl rfl (by kernel_rfl) (by kernel_rfl) (by kernel_rfl) (fun _ _ _ h => h) (by rfl) (fun wS hS => by (try dsimp only at hS); go_split_ands; go_simp) (by assumption) ?_
        simp only [Act.put, List.setIfInBounds_toArray, List.set_cons_zero, List.set_cons_succ]
        refine ord_take 48 119 (.bool false) rfl rfl (by kernel_rfl) (by kernel_rfl) (by kernel_rfl) (fun _ _ _ h => h) (by rfl) (fun wS hS => by (try dsimp only at hS); go_split_ands; go_simp) (by assumption) ?_
        simp only [Act.put, List.setIfInBounds_toArray, List.set_cons_zero, List.set_cons_succ]
        refine ord_take 49 120 (.pointer (some ⟨pw, 0, none⟩)) rfl rfl (by kernel_rfl) (by kernel_rfl) (by kernel_rfl) (fun _ _ _ h => h) (by rfl) (fun wS hS => by (try dsimp only at hS); go_split_ands; go_simp) (by assumption) ?_
        simp only [Act.put, List.setIfInBounds_toArray, List.set_cons_zero, List.set_cons_succ]
        refine ord_take 50 121 (.int .i64 1) rfl rfl (by kernel_rfl) (by kernel_rfl) (by kernel_rfl) (fun _ _ _ h => h) (by rfl) (fun wS hS => by (try dsimp only at hS); go_split_ands; go_simp) (by assumption) ?_
        simp only [Act.put, List.setIfInBounds_toArray, List.set_cons_zero, List.set_cons_succ]
        have WI := hid (((((HC.out.plain KE.out).ex E3.out).plain K4.out).drewN nI))
        have SP := hid (shape1 WI.out (HIC.out.tk k3) (by have := WZ.out; omega) (by show s.steps + kz + k2 + k3 ≤ _; have := WZ.out; have := TS.out (tk (tk s kz) k2); omega))
        have hlI := WI.out.lt
        have hbI : b < (wH.drewN nI).heap.size := Nat.lt_of_lt_of_le hbG K4.out.size
        refine wpAnyH_ready (rs := [51]) (by kernel_rfl) (by simp) ?_
        refine AllReadyH.cons rfl (fun K hK => ?_) AllReadyH.nil
        go_simp
        refine SP.out.mono ?_
        rintro e wJ ⟨rfl, k5, hk5, e5⟩
        replace d0 := (e5.kept.cell (p := ⟨pw, 0, none⟩) hlI NFp.out).trans d0
        replace dR := (e5.kept.cell (p := ⟨pw, 2, none⟩) hlI NFp.out).trans dR
        replace dx := (e5.kept.cell (p := ⟨b, k * 3, none⟩) hbI NFb.out).trans dx
        have WJ := hid (WI.out.ex e5)
        clear e5
        go_wp2_with fail
        refine hK.out _ _ ⟨d0, dR, dx⟩ (fun hHeld => ?_)
        clear hK K
        refine ord_take 52 123 (.bool false) rfl rfl (by kernel_rfl) (by kernel_rfl) (by kernel_rfl) (fun _ _ _ h => h) (by rfl) (fun wS hS => by (try dsimp only at hS); go_split_ands; go_simp) (by assumption) ?_
        simp only [Act.put, List.setIfInBounds_toArray, List.set_cons_zero, List.set_cons_succ]
        refine ord_take 53 124 (.bool false) rfl rfl (by kernel_rfl) (by kernel_rfl) (by kernel_rfl) (fun _ _ _ h => h) (by rfl) (fun wS hS => by (try dsimp only at hS); go_split_ands; go_simp) (by assumption) ?_
        simp only [Act.put, List.setIfInBounds_toArray]
        refine wpAnyH_done (by kernel_rfl) ?_ _
        refine NoPanic.normal ?_
        clear d0 dR dx
        go_wp2
        go_roundw
        case rel => exact ⟨2, kz + k2 + k3 + k5, sp2, mo2, by go_num, by omega, by have := WZ.out; have := TS.out (tk (tk s kz) k2); omega, hsp2, by omega, by rw [← tk_tk, ← tk_tk, ← tk_tk]; have z := WJ.out; rw [HLE.out] at z; exact z⟩
        case measure => simp [intOf]

    · have HW := hid hw
      clear hw
      go_wp2
      go_ret
      exact ⟨rfl, kz, sp', mo', by omega, hsp', by omega, by have := HW.out; rw [HN0.out, HN1.out] at this; exact this⟩
end Go.Proofs.Ythfdooigljkfiaa
