/- The laws' push where there is no cell for the item, or none for its node. -/
import Derived.Test.YthfdooigljkfiaaGreatDd
namespace Go.Proofs.YthfdooigljkfiaaGreat
open Go.ChangeShapes Go.WideShapes Go.ChangeAt Go.RowKit
open Tr

theorem take_no {s : St} (h : ¬ 0 ≤ nextS s) : takeS s = tk s 1 := by
  unfold nextS at h
  unfold takeS
  cases e : s.back.getLast? with
  | some a => rw [e] at h; simp at h
  | none =>
    rw [e] at h
    simp only at h ⊢
    split
    · rfl
    · rename_i c; rw [if_neg c] at h; simp at h
theorem new_no {s : St} (h : ¬ 0 ≤ nextS s) (a b : Int) : newS s a b = tk s 1 := by unfold newS; rw [if_neg h, take_no h]
theorem cnt_le {s : St} (ok : Ok s) : cnt s.pl ≤ s.most := by
  have h1 := ok.count
  have h2 := ok.fits
  omega

set_option maxHeartbeats 4000000 in
set_option maxRecDepth 100000 in
theorem push_noitem {w0 : Fm} {w : World} {pw N K : Nat} {L0 L1 : List (Nat × Int × Int)} {nx : Int} (hh key : Int) (h : Sit w0 w pw N K L0 L1 nx) (hfull : N ≤ 2 * (L0.length + L1.length)) (hK : K ≤ 90000000) :
    Calls Tryz.prog 8 #[.pointer (some ⟨pw, 0, none⟩), .int .i64 hh, .int .i64 key] w fun e w' => e = .returned (.bool true) ∧ Sit w0 w' pw N (K + 1500) L0 L1 nx := by
  obtain ⟨F, pa, pm, v0, v1, s, t, u, sp, mo, hw, hi, hk, hm⟩ := h
  have hx0 : ¬ 0 ≤ nextS s := fun q => by have := (room_iff hi.ok).1 q; rw [hi.num, hm] at this; omega
  have HW := hid hw
  have NW := hid (fun w1 (k1 : Kept (fun _ => False) w w1) => newT key nx ((Aft.start hw.is).plain k1) (by omega))
  have CN1 : Hid (cnt (tk s 1).pl = N) := hid (by
    have h1 := cnt_le hi.ok
    rw [hm] at h1
    show cnt s.pl = N
    have h2 := hi.num
    omega)
  have MO1 : Hid ((tk s 1).most = N) := hid hm
  rw [next_neg hx0, new_no hx0] at NW
  simp only [show decide ((0 : Int) ≤ -1) = false from rfl] at NW
  have HI := hid (hi.tk 1)
  obtain ⟨c0, c1, c2, c3, c4, c5, c6, c7, cf⟩ := hw.cells
  have hlt := hw.lt
  have hout := hid hw.out
  have HS : Hid ((tk s 1).steps + pot (tk s 1) t u ≤ K + 1 ∧ sp + pot (tk s 1) t u ≤ mo ∧ mo ≤ 100 * K) := hid (by show s.steps + 1 + pot s t u ≤ K + 1 ∧ sp + pot s t u ≤ mo ∧ _; omega)
  generalize tk s 1 = s1 at *
  clear hw hi hk hm hx0 hfull
  go_enter Tryz.func8, Tryz.ntmps8
  go_wp2_with fail
  go_region_held3 (fun w' => w'.cell? ⟨pw, 0, none⟩ = some (.pointer (some ⟨pa, 0, none⟩)) ∧ w'.cell? ⟨pw, 5, none⟩ = some (.int .i64 nx)) (first | exact ⟨c0, c5⟩ | (simp [go_sem]; exact ⟨c0, c5⟩))
    (first
      | (go_at_call 22; refine (NW.out _ (by first | exact Kept.refl _ _ | exact (Kept.refl _ _).drew | exact (Kept.refl _ _).drewN _)).mono ?_; rintro e w3 ⟨rfl, e3⟩; replace c0 := (e3.kept.cell (p := ⟨pw, 0, none⟩) hlt hout.out).trans c0; replace c5 := (e3.kept.cell (p := ⟨pw, 5, none⟩) hlt hout.out).trans c5; have E3 := hid e3; clear e3))
  have W3 := hid (HW.out.aft E3.out)
  clear c0 c1 c2 c3 c4 c5 c6 c7 cf hout HW NW
  generalize Grow F w w3 = F1 at W3
  clear E3
  obtain ⟨cc, hcc⟩ : ∃ cc, cc = cnt s1.pl := ⟨_, rfl⟩
  have hcN : cc = N := by rw [hcc]; exact CN1.out
  have LN := hid (fun q => lenA pa pm s1 F1 (w3.drewN q) (W3.out.is.drewN q))
  have CL := hid (fun q => cellsA pa pm s1 F1 (w3.drewN q) (W3.out.is.drewN q))
  rw [← hcc, hcN] at LN
  rw [MO1.out] at CL
  clear hcc hcN
  obtain ⟨c0, c1, c2, c3, c4, c5, c6, c7, cf⟩ := W3.out.cells
  have hlt3 := W3.out.lt
  clear c1 c2 c3 c4 c5 c6 c7 cf
  have heq : ((N : Int) == (N : Int)) = true := by simp
  go_wp2_with fail
  go_quiet
    (first
      | (go_at_call 15; refine Calls.quiet_of (LN.out _))
      | (go_at_call 23; refine Calls.quiet_of_same (CL.out _)))
  have W4 := hid (W3.out.drewN nq)
  clear LN CL c0 W3 hlt3
  generalize w3.drewN nq = w4 at *
  go_wp2
  go_ret
  exact ⟨rfl, F1, pa, pm, _, _, s1, t, u, _, _, W4.out, HI.out, by have := HS.out; omega, MO1.out⟩

set_option maxHeartbeats 8000000 in
set_option maxRecDepth 100000 in
theorem push_nonode0 {w0 : Fm} {w : World} {pw N K : Nat} {L0 L1 : List (Nat × Int × Int)} {nx : Int} (key : Int) (h : Sit w0 w pw N K L0 L1 nx) (hfull : N = 2 * (L0.length + L1.length) + 1) (hl : L0.length ≤ 699) (hK : K ≤ 90000000) :
    Calls Tryz.prog 8 #[.pointer (some ⟨pw, 0, none⟩), .int .i64 0, .int .i64 key] w fun e w' => e = .returned (.bool true) ∧ Sit w0 w' pw N (K + 1500) L0 L1 nx := by
  obtain ⟨F, pa, pm, v0, v1, s, t, u, sp, mo, hw, hi, hk, hm⟩ := h
  have hx0 : 0 ≤ nextS s := (room_iff hi.ok).2 (by rw [hi.num, hm]; omega)
  obtain ⟨i, ei, h1, k7, k8, pn⟩ := new_inv hi key nx hx0
  have hx1 : ¬ 0 ≤ nextS (newS s key nx) := fun q => by have := (room_iff h1.ok).1 q; rw [h1.num, new_most, hm] at this; omega
  have HW := hid hw
  have NW := hid (fun w1 (k1 : Kept (fun _ => False) w w1) => newT key nx ((Aft.start hw.is).plain k1) (by omega))
  rw [ei] at NW
  simp only [Int.natCast_nonneg, decide_true] at NW
  have ST1 := hid (new_steps hx0 key nx)
  have MO1 := hid ((new_most s key nx).trans hm)
  have CN1 : Hid (cnt (newS s key nx).pl = N) := hid (by rw [h1.num]; omega)
  have PU := hid (fun (F1 : Nat → Prop) (wa wb : World) (ha : Aft F1 wa wb pa pm (newS s key nx)) => pushC_no h1 hx1 (by rw [new_steps hx0]; omega) ha)
  have b20 := bts_le 20 (L0.length + 1) (by omega)
  obtain ⟨c0, c1, c2, c3, c4, c5, c6, c7, cf⟩ := hw.cells
  have hlt := hw.lt
  have hout := hid hw.out
  obtain ⟨va, vc, hv'⟩ := hw.l0.form
  subst hv'
  obtain ⟨vb, vd, hvb⟩ := hw.l1.form
  subst hvb
  have hrm := room_two hi
  have htop := hi.ok.top
  obtain ⟨ln2, hln2⟩ : ∃ z, z = L1.length := ⟨_, rfl⟩
  have HLN2 := hid hln2
  obtain ⟨m0, hm0⟩ : ∃ z, z = L0.length + ln2 := ⟨_, rfl⟩
  have HM0 := hid hm0
  obtain ⟨mm, hmm⟩ : ∃ z, z = m0 + 1 := ⟨_, rfl⟩
  have HMM := hid hmm
  have hmm4 : mm ≤ 40001 := by omega
  have HM4 := hid hmm4
  have BM1 := hid (bts_le 16 mm (by omega))
  have BMM := hid (bts_mono (show L0.length + 1 ≤ mm by omega))
  have HB11 := hid (bts_le 11 (L0.length + 1) (by omega))
  have hwm0 : IntKind.i64.wrap (m0 : Int) = (m0 : Int) := IntWalk.i64_in _ (by omega)
  have hwm : IntKind.i64.wrap (mm : Int) = (mm : Int) := IntWalk.i64_in _ (by omega)
  have hl1 : (m0 : Int) + 1 = (mm : Int) := by omega
  clear hrm htop hln2 hmm hm0
  have HKK := hid hk
  obtain ⟨len, hlen⟩ : ∃ len, len = L0.length := ⟨_, rfl⟩
  have HLN := hid hlen
  rw [← hlen] at c3 hl b20
  clear hlen
  have PN := hid pn
  clear pn
  have h10w : IntKind.i64.wrap 1 = 1 := by decide
  have hsum : (len : Int) + (ln2 : Int) = (m0 : Int) := by have := HM0.out; have := HLN.out; omega
  generalize newS s key nx = s1 at *
  clear k7 k8
  clear hw hi hk hm h1 hx0 hx1 ei hfull
  go_enter Tryz.func8, Tryz.ntmps8
  go_wp2_with fail
  go_region_held3 (fun w' => w'.cell? ⟨pw, 0, none⟩ = some (.pointer (some ⟨pa, 0, none⟩)) ∧ w'.cell? ⟨pw, 5, none⟩ = some (.int .i64 nx)) (first | exact ⟨c0, c5⟩ | (simp [go_sem]; exact ⟨c0, c5⟩))
    (first
      | (go_at_call 22; refine (NW.out _ (by first | exact Kept.refl _ _ | exact (Kept.refl _ _).drew | exact (Kept.refl _ _).drewN _)).mono ?_; rintro e w3 ⟨rfl, e3⟩; replace c0 := (e3.kept.cell (p := ⟨pw, 0, none⟩) hlt hout.out).trans c0; replace c5 := (e3.kept.cell (p := ⟨pw, 5, none⟩) hlt hout.out).trans c5; have E3 := hid e3; clear e3))
  have W3 := hid (HW.out.aft E3.out)
  clear c0 c1 c2 c3 c4 c5 c6 c7 cf hout HW NW
  generalize Grow F w w3 = F1 at W3
  clear E3
  obtain ⟨cc, hcc⟩ : ∃ cc, cc = cnt s1.pl := ⟨_, rfl⟩
  have hcN : cc = N := by rw [hcc]; exact CN1.out
  have LN := hid (fun q => lenA pa pm s1 F1 (w3.drewN q) (W3.out.is.drewN q))
  have CL := hid (fun q => cellsA pa pm s1 F1 (w3.drewN q) (W3.out.is.drewN q))
  rw [← hcc, hcN] at LN
  rw [MO1.out] at CL
  clear hcc hcN
  obtain ⟨c0, c1, c2, c3, c4, c5, c6, c7, cf⟩ := W3.out.cells
  have hlt3 := W3.out.lt
  clear c1 c2 c3 c4 c5 c6 c7 cf
  have hNN : decide ((N : Int) < (N : Int)) = false := by simp
  go_wp2_with fail
  go_quiet
    (first
      | (go_at_call 15; refine Calls.quiet_of (LN.out _))
      | (go_at_call 23; refine Calls.quiet_of_same (CL.out _)))
  have W4 := hid (W3.out.drewN nq)
  clear LN CL c0 W3 hlt3
  generalize w3.drewN nq = w4 at *
  have M := hid (meterA pa pm s1 F1 w4 W4.out.is)
  have T := hid (stepsA pa pm s1 F1 w4 W4.out.is)
  obtain ⟨q, hq⟩ : ∃ q, q = s1.steps := ⟨_, rfl⟩
  rw [← hq] at T
  have HQ := hid hq
  have hq1 : q ≤ 90000010 := by rw [hq, ST1.out]; have := HKK.out; omega
  clear hq
  obtain ⟨c0, c1, c2, c3, c4, c5, c6, c7, cf⟩ := W4.out.cells
  have hlt := W4.out.lt
  have hout := hid W4.out.out
  clear c3 c4 c5 c6 c7 cf
  go_wp2_with fail
  refine M.out.mono ?_
  rintro e wA ⟨rfl, rfl⟩
  go_wp2_with fail
  refine T.out.mono ?_
  rintro e wB ⟨rfl, rfl⟩
  clear M T
  go_wp2_with fail
  go_region_held3 (fun w' => w'.cell? ⟨pw, 0, none⟩ = some (.pointer (some ⟨pa, 0, none⟩)) ∧ w'.cell? ⟨pw, 1, none⟩ = some (.int .i64 (headr t))) (first | exact ⟨c0, c1⟩ | (simp [go_sem]; exact ⟨c0, c1⟩))
    (first
      | (go_at_call 25; refine (PU.out F1 wB _ ((Aft.start W4.out.is).plain (by first | exact Kept.refl _ _ | exact (Kept.refl _ _).drew | exact (Kept.refl _ _).drewN _))).mono ?_; rintro e w5 ⟨s2, rfl, e5, i2, m2, st1, st2⟩; have I2 := hid i2; have M2 := hid (m2.trans MO1.out); have S2 := hid (And.intro st1 st2); clear i2 m2 st1 st2; replace c0 := (e5.kept.cell (p := ⟨pw, 0, none⟩) hlt hout.out).trans c0; replace c1 := (e5.kept.cell (p := ⟨pw, 1, none⟩) hlt hout.out).trans c1; have E5 := hid e5; clear e5))
  have W5 := hid (W4.out.aft E5.out)
  clear c0 c1 c2 hout W4 PU
  generalize Grow F1 wB w5 = G at W5
  clear E5
  have S3 : Hid (q ≤ s2.steps ∧ s2.steps ≤ 91000000) := hid (by have := S2.out; have := PN.out; have := HKK.out; have := ST1.out; have := HQ.out; omega)
  have C := hid (fun w1 (k1 : Kept (fun _ => False) w5 w1) => costW mm q sp mo (by have := HM4.out; omega) (W5.out.plain k1) (by have := S3.out; omega) (by have := S3.out; omega) (by have := HKK.out; omega) (by have := S2.out; have := PN.out; have := HKK.out; have := ST1.out; have := HQ.out; omega))
  obtain ⟨c0, c1, c2, c3, c4, c5, c6, c7, cf⟩ := W5.out.cells
  rw [← HLN.out] at c3
  rw [← HLN2.out] at c4
  rw [← HLN.out] at C
  rw [← HLN2.out] at C
  have hlt5 := W5.out.lt
  clear c0 c1 c2 c5 c6 c7 cf
  go_wp2_with fail
  go_region_held3 (fun w' => w'.cell? ⟨pw, 3, none⟩ = some (.slice va len vc) ∧ w'.cell? ⟨pw, 4, none⟩ = some (.slice vb ln2 vd)) (first | exact ⟨c3, c4⟩)
    (first
      | (go_at_call 26; refine (C.out _ (by first | exact Kept.refl _ _ | exact (Kept.refl _ _).drew | exact (Kept.refl _ _).drewN _)).mono ?_; rintro e w6 ⟨rfl, sp2, mo2, hs2, hm2, h6⟩; have HS2 := hid hs2; have HM2 := hid hm2; clear hs2 hm2; replace c3 := h6.cells.2.2.2.1; replace c4 := h6.cells.2.2.2.2.1; have W6 := hid h6; clear h6))
  clear C c3 c4 W5 hlt5
  obtain ⟨c0, c1, c2, c3, c4, c5, c6, c7, cf⟩ := W6.out.cells
  have hlt6 := W6.out.lt
  clear c3 c4 c5 c6 c7 cf
  have GV := hid (giveT (i : Int) (Aft.start W6.out.is) (by have := S3.out; omega))
  rw [show liveS s2 (i : Int) = true from I2.out.live] at GV
  have hrr : ((headr t) == (headr t)) = true := by simp
  go_wp2_with fail
  refine GV.out.mono ?_
  rintro e w7 ⟨rfl, e7⟩
  have W7 := hid (W6.out.aft e7)
  clear e7 GV
  go_wp2
  go_ret
  exact ⟨rfl, _, pa, pm, _, _, giveS s2 (i : Int), t, u, _, _, W7.out, (give_inv I2.out).1, by rw [give_steps, (give_inv I2.out).2]; have := S2.out; have := PN.out; have := HKK.out; have := ST1.out; have := HQ.out; have := HS2.out; have := HM2.out; have := BM1.out; omega, by rw [give_most]; exact M2.out⟩

set_option maxHeartbeats 8000000 in
set_option maxRecDepth 100000 in
theorem push_nonode1 {w0 : Fm} {w : World} {pw N K : Nat} {L0 L1 : List (Nat × Int × Int)} {nx : Int} (key : Int) (h : Sit w0 w pw N K L0 L1 nx) (hfull : N = 2 * (L0.length + L1.length) + 1) (hl : L1.length ≤ 699) (hK : K ≤ 90000000) :
    Calls Tryz.prog 8 #[.pointer (some ⟨pw, 0, none⟩), .int .i64 1, .int .i64 key] w fun e w' => e = .returned (.bool true) ∧ Sit w0 w' pw N (K + 1500) L0 L1 nx := by
  obtain ⟨F, pa, pm, v0, v1, s, t, u, sp, mo, hw, hi, hk, hm⟩ := h
  have hx0 : 0 ≤ nextS s := (room_iff hi.ok).2 (by rw [hi.num, hm]; omega)
  obtain ⟨i, ei, h1, k7, k8, pn⟩ := new_inv hi key nx hx0
  have hx1 : ¬ 0 ≤ nextS (newS s key nx) := fun q => by have := (room_iff h1.ok).1 q; rw [h1.num, new_most, hm] at this; omega
  have HW := hid hw
  have NW := hid (fun w1 (k1 : Kept (fun _ => False) w w1) => newT key nx ((Aft.start hw.is).plain k1) (by omega))
  rw [ei] at NW
  simp only [Int.natCast_nonneg, decide_true] at NW
  have ST1 := hid (new_steps hx0 key nx)
  have MO1 := hid ((new_most s key nx).trans hm)
  have CN1 : Hid (cnt (newS s key nx).pl = N) := hid (by rw [h1.num]; omega)
  have PU := hid (fun (F1 : Nat → Prop) (wa wb : World) (ha : Aft F1 wa wb pa pm (newS s key nx)) => pushC_no h1.swap hx1 (by rw [new_steps hx0]; omega) ha)
  have b20 := bts_le 20 (L1.length + 1) (by omega)
  obtain ⟨c0, c1, c2, c3, c4, c5, c6, c7, cf⟩ := hw.cells
  have hlt := hw.lt
  have hout := hid hw.out
  obtain ⟨va, vc, hv'⟩ := hw.l1.form
  subst hv'
  obtain ⟨vb, vd, hvb⟩ := hw.l0.form
  subst hvb
  have hrm := room_two hi
  have htop := hi.ok.top
  obtain ⟨ln2, hln2⟩ : ∃ z, z = L0.length := ⟨_, rfl⟩
  have HLN2 := hid hln2
  obtain ⟨m0, hm0⟩ : ∃ z, z = L1.length + ln2 := ⟨_, rfl⟩
  have HM0 := hid hm0
  obtain ⟨mm, hmm⟩ : ∃ z, z = m0 + 1 := ⟨_, rfl⟩
  have HMM := hid hmm
  have hmm4 : mm ≤ 40001 := by omega
  have HM4 := hid hmm4
  have BM1 := hid (bts_le 16 mm (by omega))
  have BMM := hid (bts_mono (show L1.length + 1 ≤ mm by omega))
  have HB11 := hid (bts_le 11 (L1.length + 1) (by omega))
  have hwm0 : IntKind.i64.wrap (m0 : Int) = (m0 : Int) := IntWalk.i64_in _ (by omega)
  have hwm : IntKind.i64.wrap (mm : Int) = (mm : Int) := IntWalk.i64_in _ (by omega)
  have hl1 : (m0 : Int) + 1 = (mm : Int) := by omega
  clear hrm htop hln2 hmm hm0
  have HKK := hid hk
  obtain ⟨len, hlen⟩ : ∃ len, len = L1.length := ⟨_, rfl⟩
  have HLN := hid hlen
  rw [← hlen] at c4 hl b20
  clear hlen
  have PN := hid pn
  clear pn
  have h10w : IntKind.i64.wrap 0 = 0 := by decide
  have hsum : (len : Int) + (ln2 : Int) = (m0 : Int) := by have := HM0.out; have := HLN.out; omega
  generalize newS s key nx = s1 at *
  clear k7 k8
  clear hw hi hk hm h1 hx0 hx1 ei hfull
  go_enter Tryz.func8, Tryz.ntmps8
  go_wp2_with fail
  go_region_held3 (fun w' => w'.cell? ⟨pw, 0, none⟩ = some (.pointer (some ⟨pa, 0, none⟩)) ∧ w'.cell? ⟨pw, 5, none⟩ = some (.int .i64 nx)) (first | exact ⟨c0, c5⟩ | (simp [go_sem]; exact ⟨c0, c5⟩))
    (first
      | (go_at_call 22; refine (NW.out _ (by first | exact Kept.refl _ _ | exact (Kept.refl _ _).drew | exact (Kept.refl _ _).drewN _)).mono ?_; rintro e w3 ⟨rfl, e3⟩; replace c0 := (e3.kept.cell (p := ⟨pw, 0, none⟩) hlt hout.out).trans c0; replace c5 := (e3.kept.cell (p := ⟨pw, 5, none⟩) hlt hout.out).trans c5; have E3 := hid e3; clear e3))
  have W3 := hid (HW.out.aft E3.out)
  clear c0 c1 c2 c3 c4 c5 c6 c7 cf hout HW NW
  generalize Grow F w w3 = F1 at W3
  clear E3
  obtain ⟨cc, hcc⟩ : ∃ cc, cc = cnt s1.pl := ⟨_, rfl⟩
  have hcN : cc = N := by rw [hcc]; exact CN1.out
  have LN := hid (fun q => lenA pa pm s1 F1 (w3.drewN q) (W3.out.is.drewN q))
  have CL := hid (fun q => cellsA pa pm s1 F1 (w3.drewN q) (W3.out.is.drewN q))
  rw [← hcc, hcN] at LN
  rw [MO1.out] at CL
  clear hcc hcN
  obtain ⟨c0, c1, c2, c3, c4, c5, c6, c7, cf⟩ := W3.out.cells
  have hlt3 := W3.out.lt
  clear c1 c2 c3 c4 c5 c6 c7 cf
  have hNN : decide ((N : Int) < (N : Int)) = false := by simp
  go_wp2_with fail
  go_quiet
    (first
      | (go_at_call 15; refine Calls.quiet_of (LN.out _))
      | (go_at_call 23; refine Calls.quiet_of_same (CL.out _)))
  have W4 := hid (W3.out.drewN nq)
  clear LN CL c0 W3 hlt3
  generalize w3.drewN nq = w4 at *
  have M := hid (meterA pa pm s1 F1 w4 W4.out.is)
  have T := hid (stepsA pa pm s1 F1 w4 W4.out.is)
  obtain ⟨q, hq⟩ : ∃ q, q = s1.steps := ⟨_, rfl⟩
  rw [← hq] at T
  have HQ := hid hq
  have hq1 : q ≤ 90000010 := by rw [hq, ST1.out]; have := HKK.out; omega
  clear hq
  obtain ⟨c0, c1, c2, c3, c4, c5, c6, c7, cf⟩ := W4.out.cells
  have hlt := W4.out.lt
  have hout := hid W4.out.out
  clear c3 c4 c5 c6 c7 cf
  go_wp2_with fail
  refine M.out.mono ?_
  rintro e wA ⟨rfl, rfl⟩
  go_wp2_with fail
  refine T.out.mono ?_
  rintro e wB ⟨rfl, rfl⟩
  clear M T
  go_wp2_with fail
  go_region_held3 (fun w' => w'.cell? ⟨pw, 0, none⟩ = some (.pointer (some ⟨pa, 0, none⟩)) ∧ w'.cell? ⟨pw, 2, none⟩ = some (.int .i64 (headr u))) (first | exact ⟨c0, c2⟩ | (simp [go_sem]; exact ⟨c0, c2⟩))
    (first
      | (go_at_call 25; refine (PU.out F1 wB _ ((Aft.start W4.out.is).plain (by first | exact Kept.refl _ _ | exact (Kept.refl _ _).drew | exact (Kept.refl _ _).drewN _))).mono ?_; rintro e w5 ⟨s2, rfl, e5, i2, m2, st1, st2⟩; have I2 := hid i2; have M2 := hid (m2.trans MO1.out); have S2 := hid (And.intro st1 st2); clear i2 m2 st1 st2; replace c0 := (e5.kept.cell (p := ⟨pw, 0, none⟩) hlt hout.out).trans c0; replace c2 := (e5.kept.cell (p := ⟨pw, 2, none⟩) hlt hout.out).trans c2; have E5 := hid e5; clear e5))
  have W5 := hid (W4.out.aft E5.out)
  clear c0 c1 c2 hout W4 PU
  generalize Grow F1 wB w5 = G at W5
  clear E5
  have S3 : Hid (q ≤ s2.steps ∧ s2.steps ≤ 91000000) := hid (by have := pot_swap s2 u t; have := pot_swap s1 u t; have := S2.out; have := PN.out; have := HKK.out; have := ST1.out; have := HQ.out; omega)
  have C := hid (fun w1 (k1 : Kept (fun _ => False) w5 w1) => costW mm q sp mo (by have := HM4.out; omega) (W5.out.plain k1) (by have := S3.out; omega) (by have := S3.out; omega) (by have := HKK.out; omega) (by have := pot_swap s2 u t; have := pot_swap s1 u t; have := S2.out; have := PN.out; have := HKK.out; have := ST1.out; have := HQ.out; omega))
  obtain ⟨c0, c1, c2, c3, c4, c5, c6, c7, cf⟩ := W5.out.cells
  rw [← HLN.out] at c4
  rw [← HLN2.out] at c3
  rw [← HLN.out] at C
  rw [← HLN2.out] at C
  have hlt5 := W5.out.lt
  clear c0 c1 c2 c5 c6 c7 cf
  go_wp2_with fail
  go_region_held3 (fun w' => w'.cell? ⟨pw, 4, none⟩ = some (.slice va len vc) ∧ w'.cell? ⟨pw, 3, none⟩ = some (.slice vb ln2 vd)) (first | exact ⟨c4, c3⟩)
    (first
      | (go_at_call 26; refine (C.out _ (by first | exact Kept.refl _ _ | exact (Kept.refl _ _).drew | exact (Kept.refl _ _).drewN _)).mono ?_; rintro e w6 ⟨rfl, sp2, mo2, hs2, hm2, h6⟩; have HS2 := hid hs2; have HM2 := hid hm2; clear hs2 hm2; replace c3 := h6.cells.2.2.2.1; replace c4 := h6.cells.2.2.2.2.1; have W6 := hid h6; clear h6))
  clear C c3 c4 W5 hlt5
  obtain ⟨c0, c1, c2, c3, c4, c5, c6, c7, cf⟩ := W6.out.cells
  have hlt6 := W6.out.lt
  clear c3 c4 c5 c6 c7 cf
  have GV := hid (giveT (i : Int) (Aft.start W6.out.is) (by have := S3.out; omega))
  rw [show liveS s2 (i : Int) = true from I2.out.live] at GV
  have hrr : ((headr u) == (headr u)) = true := by simp
  go_wp2_with fail
  refine GV.out.mono ?_
  rintro e w7 ⟨rfl, e7⟩
  have W7 := hid (W6.out.aft e7)
  clear e7 GV
  go_wp2
  go_ret
  exact ⟨rfl, _, pa, pm, _, _, giveS s2 (i : Int), t, u, _, _, W7.out, (give_inv I2.out.swap).1, by rw [give_steps, (give_inv I2.out.swap).2]; have := pot_swap s2 u t; have := pot_swap s1 u t; have := S2.out; have := PN.out; have := HKK.out; have := ST1.out; have := HQ.out; have := HS2.out; have := HM2.out; have := BM1.out; omega, by rw [give_most]; exact M2.out⟩

section
variable {w0 : Fm} {w : World} {pw N K b c : Nat}
theorem Sit.fits {L0 L1 : List (Nat × Int × Int)} {nx : Int} (h : Sit w0 w pw N K L0 L1 nx) : 2 * (L0.length + L1.length) ≤ N := by
  obtain ⟨F, pa, pm, v0, v1, s, t, u, sp, mo, hw, hi, hk, hm⟩ := h
  have h1 := cnt_le hi.ok
  rw [hi.num, hm] at h1
  exact h1
/-- a push, whether there is room or not -/
theorem pushF (hh : Int) (h01 : hh = 0 ∨ hh = 1) (key : Int) (h : Sv w0 w pw N K b c) (hb : b ≤ 600) (hc : c ≤ 1000000) (hK : K ≤ 90000000) :
    Calls Tryz.prog 8 #[.pointer (some ⟨pw, 0, none⟩), .int .i64 hh, .int .i64 key] w fun e w' => e = .returned (.bool true) ∧ Sv w0 w' pw N (K + 1500) (b + 1) (c + 1) := by
  obtain ⟨L0, L1, nx, h1, h2, h3, h4⟩ := h
  have hf := h4.fits
  by_cases r2 : 2 * (L0.length + L1.length) + 2 ≤ N
  · rcases h01 with rfl | rfl
    · refine (push0 h4 r2 (by omega) ⟨h2, by omega⟩ hK key).mono ?_
      rintro e w1 ⟨rfl, j, s1⟩
      exact ⟨rfl, _, L1, _, by simp; omega, by omega, by omega, s1⟩
    · refine (push1 h4 r2 (by omega) ⟨h2, by omega⟩ hK key).mono ?_
      rintro e w1 ⟨rfl, j, s1⟩
      exact ⟨rfl, L0, _, _, by simp; omega, by omega, by omega, s1⟩
  · by_cases r1 : N ≤ 2 * (L0.length + L1.length)
    · refine (push_noitem hh key h4 r1 hK).mono ?_
      rintro e w1 ⟨rfl, s1⟩
      exact ⟨rfl, L0, L1, nx, by omega, h2, by omega, s1⟩
    · rcases h01 with rfl | rfl
      · refine (push_nonode0 key h4 (by omega) (by omega) hK).mono ?_
        rintro e w1 ⟨rfl, s1⟩
        exact ⟨rfl, L0, L1, nx, by omega, h2, by omega, s1⟩
      · refine (push_nonode1 key h4 (by omega) (by omega) hK).mono ?_
        rintro e w1 ⟨rfl, s1⟩
        exact ⟨rfl, L0, L1, nx, by omega, h2, by omega, s1⟩
end
end Go.Proofs.YthfdooigljkfiaaGreat
