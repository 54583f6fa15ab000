/- The laws' drop. -/
import Derived.Test.YthfdooigljkfiaaGreatGj
import Derived.Test.YthfdooigljkfiaaGreatDo
import Derived.Test.YthfdooigljkfiaaGreatGh
namespace Go.Proofs.YthfdooigljkfiaaGreat
open Go.ChangeShapes Go.WideShapes Go.ChangeAt Go.RowKit
open Tr

set_option maxHeartbeats 4000000 in
set_option maxRecDepth 100000 in
theorem drop0_some {w0 : Fm} {w : World} {pw N K : Nat} {L0 L1 : List (Nat × Int × Int)} {nx : Int} (h : Sit w0 w pw N K L0 L1 nx) (_h0 : L0 ≠ []) (hl : L0.length ≤ 700) (hK : K ≤ 70000000) :
    Calls Tryz.prog 14 #[.pointer (some ⟨pw, 0, none⟩), .int .i64 0] w fun e w' => e = .returned (.bool true) ∧ Sit w0 w' pw N (K + 50000) [] L1 nx := by
  obtain ⟨F, pa, pm, v0, v1, s, t, u, sp, mo, hw, hi, hk, hm⟩ := h
  have hsz := hi.a.len
  have HI := hid hi
  have HW := hid hw
  have HK := hid hk
  have HM := hid hm
  have HSZ := hid hsz
  have PM := hid hi.a.pm
  have D := hid (fun w1 (k1 : Kept (fun _ => False) w w1) => dropC hi (by omega) (hw.plain k1).is (by omega))
  obtain ⟨c0, c1, c2, c3, c4, c5, c6, c7, cf⟩ := hw.cells
  have hlt := hw.lt
  have hout := hid hw.out
  have FL := hid hw.is.lt
  have hll : L0.length ≤ 700 := by omega
  clear hw hi hk hm hsz c3 c4 c5 c6 c7 cf hl
  go_enter Tryz.func14, Tryz.ntmps14
  go_wp2_with fail
  go_region_held3 (fun w' => w'.cell? ⟨pw, 0, none⟩ = some (.pointer (some ⟨pa, 0, none⟩)) ∧ w'.cell? ⟨pw, 1, none⟩ = some (.int .i64 (headr t))) (first | exact ⟨c0, c1⟩ | (simp [go_sem]; exact ⟨c0, c1⟩))
    (first
      | (go_at_call 41; refine (D.out _ (by first | exact Kept.refl _ _ | exact (Kept.refl _ _).drew | exact (Kept.refl _ _).drewN _)).mono ?_; rintro e w3 ⟨v', m, w2, Dn, k, rfl, pD, pI, pS, hk, eX, oX, aX⟩; replace c0 := ((aX.kept.cell (p := ⟨pw, 0, none⟩) (Nat.lt_of_lt_of_le hlt eX.kept.size) hout.out).trans (eX.kept.cell (p := ⟨pw, 0, none⟩) hlt hout.out)).trans c0; replace c1 := ((aX.kept.cell (p := ⟨pw, 1, none⟩) (Nat.lt_of_lt_of_le hlt eX.kept.size) hout.out).trans (eX.kept.cell (p := ⟨pw, 1, none⟩) hlt hout.out)).trans c1; have EX := hid eX; have AX := hid aX; have OX := hid oX; have PD := hid pD; have PI := hid pI; have PS := hid pS; have HKK := hid hk; obtain ⟨va, vc, rfl⟩ := own_form oX; clear eX aX oX pD pI pS hk))
  have W2 := hid ((HW.out.plain ((Kept.refl _ _).drewN 1)).ex EX.out)
  have W3 := hid (W2.out.aft AX.out)
  have vF := hid (show ∀ b, (Value.slice va m.length vc).ownBlock = some b → ¬ Grow F w2 w3 b from fun b hb q => by
    have h1 := OX.out.lt b hb
    rcases q with q | q
    · have := FL.out b q; have h2 : w.heap.size ≤ b := h1.1; omega
    · omega)
  have V3 := hid (own_kept OX.out AX.out.kept (fun b hb q => vF.out b hb (Or.inl q)))
  have ST := hid (show (dgS (tk s k) Dn).steps ≤ s.steps + 40000 by
    rw [dg_steps]; show s.steps + k + 3 * Dn.length ≤ _
    have h1 : Dn.length = L0.length := by rw [PD.out.length_eq, size_nodes, HI.out.a.len]
    have h2 := HKK.out
    have h3 := HSZ.out
    omega)
  have DI := hid (fun (z : Nat) => drop_inv (HI.out) PD.out PI.out k)
  have DG := hid (dg_heap (HI.out) PD.out k).2
  have MO := hid (show (dgS (tk s k) Dn).most = N by rw [dg_most]; exact HM.out)
  have ml := hid (show m.length = L0.length by rw [PI.out.length_eq]; unfold its; rw [size_items]; exact HSZ.out)
  have GK := hid (dg_heap (HI.out) PD.out k).1.ok
  clear c0 c1 c2 hlt hout HW W2 EX AX OX D
  generalize Grow F w2 w3 = G at *
  generalize hS1 : dgS (tk s k) Dn = s1 at *
  clear hS1
  obtain ⟨xa, xc, hx⟩ := W3.out.l0.form
  have CE := hid (cellsH _ _ w3 W3.out.l0 (by omega))
  obtain ⟨c0, c1, c2, c3, c4, c5, c6, c7, cf⟩ := W3.out.cells
  have hlt3 := W3.out.lt
  subst hx
  clear c0 c1 c2 c5 c6 c7 cf
  go_wp2_with fail
  refine CE.out.mono ?_
  rintro e w4 ⟨v4, m2, rfl, o4, hp, hpw, k4⟩
  have hmm : m = m2 := sort_uniq (PI.out.trans (PM.out.symm.trans hp.symm)) PS.out hpw
  have V4 := hid (own_kept V3.out k4 (fun _ _ e => e))
  have SM := hid (sameN (.slice va m.length vc) v4 m m2 hmm (by have := ml.out; omega) w4 (own_base V4.out (Nat.zero_le _)) (own_base o4 (Nat.zero_le _)))
  have W4 := hid (W3.out.plain k4)
  obtain ⟨vb, vd, rfl⟩ := own_form o4
  clear CE o4 hp hpw k4 W3 c3 c4 hlt3 V3 hmm
  go_wp2_with fail
  refine SM.out.mono ?_
  rintro e w5 ⟨rfl, nn, rfl⟩
  have W5 := hid (W4.out.drewN nn)
  have V5 := hid (own_kept V4.out ((Kept.refl (fun _ => False) _).drewN nn) (fun _ _ e => e))
  clear SM W4 V4
  generalize w4.drewN nn = w5 at *
  have hnd := hid (show m.Nodup from PI.out.nodup_iff.2 (its_nodup HI.out.a))
  go_wp2_with fail
  go_loopw [6] (fun iv wr => ∃ (a : Nat) (G' : Nat → Prop), iv = .int .i64 a ∧ a ≤ m.length ∧ wr.ownsRow w.heap.size 3 1 (.slice va m.length vc) m.length (row nat1 m) ∧ (∀ b, (Value.slice va m.length vc).ownBlock = some b → ¬ G' b) ∧ Wx w0 wr G' pw pa pm (.slice xa L0.length xc) v1 (giS s1 (m.take a)) (headr t) (headr u) L0 L1 nx (sp : Int) (mo : Int)) (fun i _ => m.length - (intOf i).toNat)
  case atStart => exact ⟨0, G, rfl, Nat.zero_le _, V5.out, vF.out, W5.out⟩
  case round =>
    clear W5 V5 vF
    obtain ⟨a, G', rfl, ha, hv, hg', hW⟩ := hrel
    have HV := hid hv
    have HG := hid hg'
    have HWR := hid hW
    by_cases hlt : a < m.length
    · have hx : m[a]? = some m[a] := List.getElem?_eq_getElem hlt
      obtain ⟨g, cap, e, hgs, _, hcell⟩ := own1_at hv nat1_len hx
      obtain rfl : va = some ⟨g, 0, none⟩ := by injection e
      have gG : ¬ G' g := hg' g rfl
      have ET := hid (show m.take (a + 1) = m.take a ++ [m[a]] by rw [List.take_add_one, hx]; rfl)
      have hxm : m[a] ∈ m := List.getElem_mem hlt
      have hnt : m[a] ∉ m.take a := fun z => by
        have hn := hnd.out
        rw [← List.take_append_drop a m, List.nodup_append] at hn
        exact hn.2.2 _ z _ (by have e9 := List.drop_eq_getElem_cons hlt; rw [e9]; exact List.mem_cons.2 (Or.inl rfl)) rfl
      have vw := gi_view (m.take a) s1 GK.out ((List.take_sublist a m).nodup hnd.out) (fun i hi => (DG.out i (PI.out.mem_iff.1 (List.mem_of_mem_take hi))).1)
      have lx : LS (giS s1 (m.take a)) m[a] = true := by rw [vw.ls _ hnt]; exact (DG.out _ (PI.out.mem_iff.1 hxm)).1
      have h9 : hasS (giS s1 (m.take a)) m[a] 9 = -1 := by rw [vw.rest]; exact (DG.out _ (PI.out.mem_iff.1 hxm)).2
      have sa : (giS s1 (m.take a)).steps ≤ s.steps + 40000 + 1400 := by
        rw [gi_steps]
        have h1 := ST.out
        have h2 := List.length_take_le a m
        have h3 := ml.out
        omega
      generalize m[a] = x at *
      generalize hsA : giS s1 (m.take a) = sA at *
      have HSA := hid hsA
      have HLT := hid hlt
      clear hsA
      have ND := hid (fun w1 (k1 : Kept (fun _ => False) wr w1) => (nodeT (x : Int) (Ex.start (hW.plain k1).is) (by have := HK.out; omega)).mono fun e w' h => (show e = .returned (.int .i64 (-1)) ∧ Kept G' w1 w' ∧ Wx w0 w' G' pw pa pm (.slice xa L0.length xc) v1 (tk sA 1) (headr t) (headr u) L0 L1 nx (sp : Int) (mo : Int) from ⟨by rw [h.1, show cellS sA (x : Int) 9 = -1 from cell_neg (j := 9) lx (by decide) h9], h.2.kept, (hW.plain k1).ex h.2⟩))
      have GV := hid (fun w1 w2 (W : Wx w0 w1 G' pw pa pm (.slice xa L0.length xc) v1 (tk sA 1) (headr t) (headr u) L0 L1 nx (sp : Int) (mo : Int)) (k1 : Kept (fun _ => False) w1 w2) => (giveT (x : Int) (Aft.start (W.plain k1).is) (by show sA.steps + 1 ≤ _; have := HK.out; omega)).mono fun e w' h => (show e = .returned (.bool true) ∧ Kept G' w2 w' ∧ Wx w0 w' (Grow G' w2 w') pw pa pm (.slice xa L0.length xc) v1 (giveS (tk sA 1) (x : Int)) (headr t) (headr u) L0 L1 nx (sp : Int) (mo : Int) from ⟨by rw [h.1, show liveS (tk sA 1) (x : Int) = true from lx], h.2.kept, (W.plain k1).aft h.2⟩))
      obtain ⟨c0, _⟩ := hW.cells
      have hltp := hW.lt
      have pG := hid hW.out
      have gG2 := hid gG
      replace hcell : wr.cell? ⟨g, a, none⟩ = some (.int .i64 (x : Int)) := hcell
      have hlt' : (a : Int) < (m.length : Int) := by omega
      have hm7 : m.length ≤ 700 := by have := ml.out; omega
      clear hx e hv hg' hW gG hxm hnt vw lx h9 sa
      go_wp2_with fail
      go_region_held3 (fun w' => w'.cell? ⟨pw, 0, none⟩ = some (.pointer (some ⟨pa, 0, none⟩)) ∧ w'.cell? ⟨g, a, none⟩ = some (.int .i64 (x : Int))) (first | exact ⟨c0, hcell⟩ | (simp [go_sem]; exact ⟨c0, hcell⟩))
        (first
          | (go_at_call 38; refine (ND.out _ (by first | exact Kept.refl _ _ | exact (Kept.refl _ _).drew | exact (Kept.refl _ _).drewN _)).mono ?_; rintro e w6 ⟨rfl, k6, W6x⟩; replace c0 := (k6.cell (p := ⟨pw, 0, none⟩) hltp pG.out).trans c0; replace hcell := (k6.cell (p := ⟨g, a, none⟩) hgs gG2.out).trans hcell; have K6 := hid k6; have W6 := hid W6x; have hltp6 := Nat.lt_of_lt_of_le hltp k6.size; have hgs6 := Nat.lt_of_lt_of_le hgs k6.size; clear k6 W6x)
          | (go_at_call 27; refine (GV.out _ _ W6.out (by first | exact Kept.refl _ _ | exact (Kept.refl _ _).drew | exact (Kept.refl _ _).drewN _)).mono ?_; rintro e w7 ⟨rfl, k7, W7x⟩; replace c0 := (k7.cell (p := ⟨pw, 0, none⟩) hltp6 pG.out).trans c0; replace hcell := (k7.cell (p := ⟨g, a, none⟩) hgs6 gG2.out).trans hcell; have K7 := hid k7; have W7 := hid W7x; clear k7 W7x))
      have V7 := hid (own_kept (own_kept (World.ownsRow.drew HV.out) K6.out (fun b hb => HG.out b hb)) K7.out (fun b hb => HG.out b hb))
      have NG := hid (show ∀ b, (Value.slice (some ⟨g, 0, none⟩) m.length vc).ownBlock = some b → ¬ Grow G' _ w7 b from fun b hb q => by
        have hbg : g = b := by simpa [Value.ownBlock] using hb
        rcases q with q | q
        · exact HG.out b hb q
        · have h1 := q.1; rw [← hbg] at h1; exact absurd h1 (Nat.not_le.2 hgs6))
      clear c0 hcell hltp hgs hltp6 hgs6 ND GV W6 K6 K7
      go_wp2
      go_roundw
      case rel => exact ⟨a + 1, _, by go_num, HLT.out, V7.out, NG.out, by rw [ET.out, gi_append, HSA.out]; exact W7.out⟩
      case measure => have := HLT.out; simp [intOf]; omega
    · obtain rfl : a = m.length := by omega
      have hge : decide ((m.length : Int) < (m.length : Int)) = false := by simp
      rw [List.take_length] at hW
      obtain ⟨c0, c1, c2, c3, c4, c5, c6, c7, cf⟩ := hW.cells
      have hlt9 := hW.lt
      have fR := cf 1
      have fV := cf 3
      have W9 := hid hW
      clear c0 c5 c6 c7 cf hv hg' HV HG HWR hW
      go_wp2_with fail
      go_region
      go_wp2
      go_ret
      have kk := ((kept_pw wr pw 1 (.int .i64 (-1))).trans' (kept_pw _ pw 3 (.slice none 0 0))).drew
      have Wz := W9.out.wrote (r0' := headr nilQ) (v0' := .slice none 0 0) (L0' := []) kk (by have b1 := blk_set (j := 3) (u := .slice none 0 0) (blk_set (j := 1) (u := .int .i64 (-1)) W9.out.blk); simp at b1; exact b1) (Lz.nil _ _) (W9.out.l1.kept kk fun _ q => q.2)
      exact ⟨rfl, G', pa, pm, _, _, giS s1 m, nilQ, u, sp, mo, Wz, (DI.out 0).1, by rw [gi_steps]; have h4 := (DI.out 0).2; have h1 := ST.out; have h2 := ml.out; have h3 := HK.out; omega, by rw [gi_most]; exact MO.out⟩

set_option maxHeartbeats 4000000 in
set_option maxRecDepth 100000 in
theorem drop1_some {w0 : Fm} {w : World} {pw N K : Nat} {L0 L1 : List (Nat × Int × Int)} {nx : Int} (h : Sit w0 w pw N K L0 L1 nx) (_h0 : L1 ≠ []) (hl : L1.length ≤ 700) (hK : K ≤ 70000000) :
    Calls Tryz.prog 14 #[.pointer (some ⟨pw, 0, none⟩), .int .i64 1] w fun e w' => e = .returned (.bool true) ∧ Sit w0 w' pw N (K + 50000) L0 [] nx := by
  obtain ⟨F, pa, pm, v0, v1, s, t, u, sp, mo, hw, hi, hk, hm⟩ := h
  have hsz := hi.b.len
  have HI := hid hi
  have HW := hid hw
  have HK := hid hk
  have HM := hid hm
  have HSZ := hid hsz
  have PM := hid hi.b.pm
  have D := hid (fun w1 (k1 : Kept (fun _ => False) w w1) => dropC hi.swap (by omega) (hw.plain k1).is (by omega))
  obtain ⟨c0, c1, c2, c3, c4, c5, c6, c7, cf⟩ := hw.cells
  have hlt := hw.lt
  have hout := hid hw.out
  have FL := hid hw.is.lt
  have hll : L1.length ≤ 700 := by omega
  clear hw hi hk hm hsz c3 c4 c5 c6 c7 cf hl
  go_enter Tryz.func14, Tryz.ntmps14
  go_wp2_with fail
  go_region_held3 (fun w' => w'.cell? ⟨pw, 0, none⟩ = some (.pointer (some ⟨pa, 0, none⟩)) ∧ w'.cell? ⟨pw, 2, none⟩ = some (.int .i64 (headr u))) (first | exact ⟨c0, c2⟩ | (simp [go_sem]; exact ⟨c0, c2⟩))
    (first
      | (go_at_call 41; refine (D.out _ (by first | exact Kept.refl _ _ | exact (Kept.refl _ _).drew | exact (Kept.refl _ _).drewN _)).mono ?_; rintro e w3 ⟨v', m, w2, Dn, k, rfl, pD, pI, pS, hk, eX, oX, aX⟩; replace c0 := ((aX.kept.cell (p := ⟨pw, 0, none⟩) (Nat.lt_of_lt_of_le hlt eX.kept.size) hout.out).trans (eX.kept.cell (p := ⟨pw, 0, none⟩) hlt hout.out)).trans c0; replace c2 := ((aX.kept.cell (p := ⟨pw, 2, none⟩) (Nat.lt_of_lt_of_le hlt eX.kept.size) hout.out).trans (eX.kept.cell (p := ⟨pw, 2, none⟩) hlt hout.out)).trans c2; have EX := hid eX; have AX := hid aX; have OX := hid oX; have PD := hid pD; have PI := hid pI; have PS := hid pS; have HKK := hid hk; obtain ⟨va, vc, rfl⟩ := own_form oX; clear eX aX oX pD pI pS hk))
  have W2 := hid ((HW.out.plain ((Kept.refl _ _).drewN 1)).ex EX.out)
  have W3 := hid (W2.out.aft AX.out)
  have vF := hid (show ∀ b, (Value.slice va m.length vc).ownBlock = some b → ¬ Grow F w2 w3 b from fun b hb q => by
    have h1 := OX.out.lt b hb
    rcases q with q | q
    · have := FL.out b q; have h2 : w.heap.size ≤ b := h1.1; omega
    · omega)
  have V3 := hid (own_kept OX.out AX.out.kept (fun b hb q => vF.out b hb (Or.inl q)))
  have ST := hid (show (dgS (tk s k) Dn).steps ≤ s.steps + 40000 by
    rw [dg_steps]; show s.steps + k + 3 * Dn.length ≤ _
    have h1 : Dn.length = L1.length := by rw [PD.out.length_eq, size_nodes, HI.out.b.len]
    have h2 := HKK.out
    have h3 := HSZ.out
    omega)
  have DI := hid (fun (z : Nat) => drop_inv (HI.out.swap) PD.out PI.out k)
  have DG := hid (dg_heap (HI.out.swap) PD.out k).2
  have MO := hid (show (dgS (tk s k) Dn).most = N by rw [dg_most]; exact HM.out)
  have ml := hid (show m.length = L1.length by rw [PI.out.length_eq]; unfold its; rw [size_items]; exact HSZ.out)
  have GK := hid (dg_heap (HI.out.swap) PD.out k).1.ok
  clear c0 c1 c2 hlt hout HW W2 EX AX OX D
  generalize Grow F w2 w3 = G at *
  generalize hS1 : dgS (tk s k) Dn = s1 at *
  clear hS1
  obtain ⟨xa, xc, hx⟩ := W3.out.l1.form
  have CE := hid (cellsH _ _ w3 W3.out.l1 (by omega))
  obtain ⟨c0, c1, c2, c3, c4, c5, c6, c7, cf⟩ := W3.out.cells
  have hlt3 := W3.out.lt
  subst hx
  clear c0 c1 c2 c5 c6 c7 cf
  go_wp2_with fail
  refine CE.out.mono ?_
  rintro e w4 ⟨v4, m2, rfl, o4, hp, hpw, k4⟩
  have hmm : m = m2 := sort_uniq (PI.out.trans (PM.out.symm.trans hp.symm)) PS.out hpw
  have V4 := hid (own_kept V3.out k4 (fun _ _ e => e))
  have SM := hid (sameN (.slice va m.length vc) v4 m m2 hmm (by have := ml.out; omega) w4 (own_base V4.out (Nat.zero_le _)) (own_base o4 (Nat.zero_le _)))
  have W4 := hid (W3.out.plain k4)
  obtain ⟨vb, vd, rfl⟩ := own_form o4
  clear CE o4 hp hpw k4 W3 c3 c4 hlt3 V3 hmm
  go_wp2_with fail
  refine SM.out.mono ?_
  rintro e w5 ⟨rfl, nn, rfl⟩
  have W5 := hid (W4.out.drewN nn)
  have V5 := hid (own_kept V4.out ((Kept.refl (fun _ => False) _).drewN nn) (fun _ _ e => e))
  clear SM W4 V4
  generalize w4.drewN nn = w5 at *
  have hnd := hid (show m.Nodup from PI.out.nodup_iff.2 (its_nodup HI.out.b))
  go_wp2_with fail
  go_loopw [6] (fun iv wr => ∃ (a : Nat) (G' : Nat → Prop), iv = .int .i64 a ∧ a ≤ m.length ∧ wr.ownsRow w.heap.size 3 1 (.slice va m.length vc) m.length (row nat1 m) ∧ (∀ b, (Value.slice va m.length vc).ownBlock = some b → ¬ G' b) ∧ Wx w0 wr G' pw pa pm v0 (.slice xa L1.length xc) (giS s1 (m.take a)) (headr t) (headr u) L0 L1 nx (sp : Int) (mo : Int)) (fun i _ => m.length - (intOf i).toNat)
  case atStart => exact ⟨0, G, rfl, Nat.zero_le _, V5.out, vF.out, W5.out⟩
  case round =>
    clear W5 V5 vF
    obtain ⟨a, G', rfl, ha, hv, hg', hW⟩ := hrel
    have HV := hid hv
    have HG := hid hg'
    have HWR := hid hW
    by_cases hlt : a < m.length
    · have hx : m[a]? = some m[a] := List.getElem?_eq_getElem hlt
      obtain ⟨g, cap, e, hgs, _, hcell⟩ := own1_at hv nat1_len hx
      obtain rfl : va = some ⟨g, 0, none⟩ := by injection e
      have gG : ¬ G' g := hg' g rfl
      have ET := hid (show m.take (a + 1) = m.take a ++ [m[a]] by rw [List.take_add_one, hx]; rfl)
      have hxm : m[a] ∈ m := List.getElem_mem hlt
      have hnt : m[a] ∉ m.take a := fun z => by
        have hn := hnd.out
        rw [← List.take_append_drop a m, List.nodup_append] at hn
        exact hn.2.2 _ z _ (by have e9 := List.drop_eq_getElem_cons hlt; rw [e9]; exact List.mem_cons.2 (Or.inl rfl)) rfl
      have vw := gi_view (m.take a) s1 GK.out ((List.take_sublist a m).nodup hnd.out) (fun i hi => (DG.out i (PI.out.mem_iff.1 (List.mem_of_mem_take hi))).1)
      have lx : LS (giS s1 (m.take a)) m[a] = true := by rw [vw.ls _ hnt]; exact (DG.out _ (PI.out.mem_iff.1 hxm)).1
      have h9 : hasS (giS s1 (m.take a)) m[a] 9 = -1 := by rw [vw.rest]; exact (DG.out _ (PI.out.mem_iff.1 hxm)).2
      have sa : (giS s1 (m.take a)).steps ≤ s.steps + 40000 + 1400 := by
        rw [gi_steps]
        have h1 := ST.out
        have h2 := List.length_take_le a m
        have h3 := ml.out
        omega
      generalize m[a] = x at *
      generalize hsA : giS s1 (m.take a) = sA at *
      have HSA := hid hsA
      have HLT := hid hlt
      clear hsA
      have ND := hid (fun w1 (k1 : Kept (fun _ => False) wr w1) => (nodeT (x : Int) (Ex.start (hW.plain k1).is) (by have := HK.out; omega)).mono fun e w' h => (show e = .returned (.int .i64 (-1)) ∧ Kept G' w1 w' ∧ Wx w0 w' G' pw pa pm v0 (.slice xa L1.length xc) (tk sA 1) (headr t) (headr u) L0 L1 nx (sp : Int) (mo : Int) from ⟨by rw [h.1, show cellS sA (x : Int) 9 = -1 from cell_neg (j := 9) lx (by decide) h9], h.2.kept, (hW.plain k1).ex h.2⟩))
      have GV := hid (fun w1 w2 (W : Wx w0 w1 G' pw pa pm v0 (.slice xa L1.length xc) (tk sA 1) (headr t) (headr u) L0 L1 nx (sp : Int) (mo : Int)) (k1 : Kept (fun _ => False) w1 w2) => (giveT (x : Int) (Aft.start (W.plain k1).is) (by show sA.steps + 1 ≤ _; have := HK.out; omega)).mono fun e w' h => (show e = .returned (.bool true) ∧ Kept G' w2 w' ∧ Wx w0 w' (Grow G' w2 w') pw pa pm v0 (.slice xa L1.length xc) (giveS (tk sA 1) (x : Int)) (headr t) (headr u) L0 L1 nx (sp : Int) (mo : Int) from ⟨by rw [h.1, show liveS (tk sA 1) (x : Int) = true from lx], h.2.kept, (W.plain k1).aft h.2⟩))
      obtain ⟨c0, _⟩ := hW.cells
      have hltp := hW.lt
      have pG := hid hW.out
      have gG2 := hid gG
      replace hcell : wr.cell? ⟨g, a, none⟩ = some (.int .i64 (x : Int)) := hcell
      have hlt' : (a : Int) < (m.length : Int) := by omega
      have hm7 : m.length ≤ 700 := by have := ml.out; omega
      clear hx e hv hg' hW gG hxm hnt vw lx h9 sa
      go_wp2_with fail
      go_region_held3 (fun w' => w'.cell? ⟨pw, 0, none⟩ = some (.pointer (some ⟨pa, 0, none⟩)) ∧ w'.cell? ⟨g, a, none⟩ = some (.int .i64 (x : Int))) (first | exact ⟨c0, hcell⟩ | (simp [go_sem]; exact ⟨c0, hcell⟩))
        (first
          | (go_at_call 38; refine (ND.out _ (by first | exact Kept.refl _ _ | exact (Kept.refl _ _).drew | exact (Kept.refl _ _).drewN _)).mono ?_; rintro e w6 ⟨rfl, k6, W6x⟩; replace c0 := (k6.cell (p := ⟨pw, 0, none⟩) hltp pG.out).trans c0; replace hcell := (k6.cell (p := ⟨g, a, none⟩) hgs gG2.out).trans hcell; have K6 := hid k6; have W6 := hid W6x; have hltp6 := Nat.lt_of_lt_of_le hltp k6.size; have hgs6 := Nat.lt_of_lt_of_le hgs k6.size; clear k6 W6x)
          | (go_at_call 27; refine (GV.out _ _ W6.out (by first | exact Kept.refl _ _ | exact (Kept.refl _ _).drew | exact (Kept.refl _ _).drewN _)).mono ?_; rintro e w7 ⟨rfl, k7, W7x⟩; replace c0 := (k7.cell (p := ⟨pw, 0, none⟩) hltp6 pG.out).trans c0; replace hcell := (k7.cell (p := ⟨g, a, none⟩) hgs6 gG2.out).trans hcell; have K7 := hid k7; have W7 := hid W7x; clear k7 W7x))
      have V7 := hid (own_kept (own_kept (World.ownsRow.drew HV.out) K6.out (fun b hb => HG.out b hb)) K7.out (fun b hb => HG.out b hb))
      have NG := hid (show ∀ b, (Value.slice (some ⟨g, 0, none⟩) m.length vc).ownBlock = some b → ¬ Grow G' _ w7 b from fun b hb q => by
        have hbg : g = b := by simpa [Value.ownBlock] using hb
        rcases q with q | q
        · exact HG.out b hb q
        · have h1 := q.1; rw [← hbg] at h1; exact absurd h1 (Nat.not_le.2 hgs6))
      clear c0 hcell hltp hgs hltp6 hgs6 ND GV W6 K6 K7
      go_wp2
      go_roundw
      case rel => exact ⟨a + 1, _, by go_num, HLT.out, V7.out, NG.out, by rw [ET.out, gi_append, HSA.out]; exact W7.out⟩
      case measure => have := HLT.out; simp [intOf]; omega
    · obtain rfl : a = m.length := by omega
      have hge : decide ((m.length : Int) < (m.length : Int)) = false := by simp
      rw [List.take_length] at hW
      obtain ⟨c0, c1, c2, c3, c4, c5, c6, c7, cf⟩ := hW.cells
      have hlt9 := hW.lt
      have fR := cf 2
      have fV := cf 4
      have W9 := hid hW
      clear c0 c5 c6 c7 cf hv hg' HV HG HWR hW
      go_wp2_with fail
      go_region
      go_wp2
      go_ret
      have kk := ((kept_pw wr pw 2 (.int .i64 (-1))).trans' (kept_pw _ pw 4 (.slice none 0 0))).drew
      have Wz := W9.out.wrote (r1' := headr nilQ) (v1' := .slice none 0 0) (L1' := []) kk (by have b1 := blk_set (j := 4) (u := .slice none 0 0) (blk_set (j := 2) (u := .int .i64 (-1)) W9.out.blk); simp at b1; exact b1) (W9.out.l0.kept kk fun _ q => q.2) (Lz.nil _ _)
      exact ⟨rfl, G', pa, pm, _, _, giS s1 m, t, nilQ, sp, mo, Wz, (DI.out 0).1.swap, by rw [gi_steps, pot_swap]; have h4 := (DI.out 0).2; rw [pot_swap s u t] at h4; have h1 := ST.out; have h2 := ml.out; have h3 := HK.out; omega, by rw [gi_most]; exact MO.out⟩

theorem drop0S {w0 : Fm} {w : World} {pw N K : Nat} {L0 L1 : List (Nat × Int × Int)} {nx : Int} (h : Sit w0 w pw N K L0 L1 nx) (hl : L0.length ≤ 700) (hK : K ≤ 70000000) :
    Calls Tryz.prog 14 #[.pointer (some ⟨pw, 0, none⟩), .int .i64 0] w fun e w' => e = .returned (.bool true) ∧ Sit w0 w' pw N (K + 50000) [] L1 nx := by
  by_cases h0 : L0 = []
  · subst h0
    refine (drop0_none h hK).mono ?_
    rintro e w1 ⟨rfl, s1⟩
    exact ⟨rfl, s1.mono (by omega)⟩
  · exact drop0_some h h0 hl hK
theorem drop1S {w0 : Fm} {w : World} {pw N K : Nat} {L0 L1 : List (Nat × Int × Int)} {nx : Int} (h : Sit w0 w pw N K L0 L1 nx) (hl : L1.length ≤ 700) (hK : K ≤ 70000000) :
    Calls Tryz.prog 14 #[.pointer (some ⟨pw, 0, none⟩), .int .i64 1] w fun e w' => e = .returned (.bool true) ∧ Sit w0 w' pw N (K + 50000) L0 [] nx := by
  by_cases h0 : L1 = []
  · subst h0
    refine (drop1_none h hK).mono ?_
    rintro e w1 ⟨rfl, s1⟩
    exact ⟨rfl, s1.mono (by omega)⟩
  · exact drop1_some h h0 hl hK
end Go.Proofs.YthfdooigljkfiaaGreat
