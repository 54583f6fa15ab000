/- Several texts in one. -/
import Derived.Test.YtnkpopeahmjodaaTz
import Derived.Test.YtnkpopeahmjodaaCe
import Derived.Test.YtnkpopeahmjodaaZu
import Derived.Test.YtnkpopeahmjodaaWi
import Derived.Test.YtnkpopeahmjodaaPu
import Derived.Test.YtnkpopeahmjodaaLift
import Derived.Test.YtnkpopeahmjodaaFr
import Derived.Test.YtnkpopeahmjodaaKn
import Derived.Test.YtnkpopeahmjodaaSb
import Derived.Test.YtnkpopeahmjodaaFa0
import Derived.Test.YtnkpopeahmjodaaPw
import Derived.Test.YtnkpopeahmjodaaFa1
/- Heaps of nothing. -/
namespace Go.Proofs.Ytnkpopeahmjodaa
open Go.ChangeShapes Go.WideShapes Go.ChangeAt Go.RowKit
open Tr

/-- a heap of nothing is None -/
theorem Sit.none1 {w0 : Fm} {w : World} {pw N K : Nat} {L0 : List (Nat × Int × Int)} {nx : Int} (h : Sit w0 w pw N K L0 [] nx) : w.cell? ⟨pw, 2, none⟩ = some (.int .i64 (-1)) := by
  obtain ⟨F, pa, pm, v0, v1, s, t, u, sp, mo, hw, hi, hk, hm⟩ := h
  obtain ⟨_, _, c2, _⟩ := hw.cells
  have := hi.b.len
  cases u with
  | lf => exact c2
  | nd n i l r => simp [size] at this
theorem Sit.none0 {w0 : Fm} {w : World} {pw N K : Nat} {L1 : List (Nat × Int × Int)} {nx : Int} (h : Sit w0 w pw N K [] L1 nx) : w.cell? ⟨pw, 1, none⟩ = some (.int .i64 (-1)) := by
  obtain ⟨F, pa, pm, v0, v1, s, t, u, sp, mo, hw, hi, hk, hm⟩ := h
  obtain ⟨_, c1, _⟩ := hw.cells
  have := hi.a.len
  cases t with
  | lf => exact c1
  | nd n i l r => simp [size] at this
theorem popL_le (L : List (Nat × Int × Int)) : (popL L).length ≤ L.length := by
  by_cases h : L = []
  · subst h; exact Nat.le_refl _
  · rw [popL_len h]; omega

end Go.Proofs.Ytnkpopeahmjodaa

/- Drop of nothing; the laws' drop of a heap of nothing. -/
namespace Go.Proofs.Ytnkpopeahmjodaa
open Go.ChangeShapes Go.WideShapes Go.ChangeAt Go.RowKit
open Tr

theorem own_lower {w : World} {base base' : Nat} {e : TypeId} {size : Nat} {v : Value} {n : Nat} {xs : List Value} (h : w.ownsRow base e size v n xs) (hb : base' ≤ base) : w.ownsRow base' e size v n xs :=
  ⟨h.1, h.2.imp id fun ⟨g, cap, cur, e1, e2, e3⟩ => ⟨g, cap, cur, e1, Nat.le_trans hb e2, e3⟩⟩
set_option maxHeartbeats 1000000 in
theorem ndropT_none {F : Nat → Prop} {w : World} {pa pm : Nat} {s : St} (h : IsA w F pa pm s) (hs : s.steps ≤ 90000000) :
    Calls Try.prog 60 #[.pointer (some ⟨pa, 0, none⟩), .slice none 0 0] w fun e w' => ∃ v', e = .returned v' ∧ w'.ownsRow w.heap.size 3 1 v' 0 [] ∧ Ex F w w' pa pm s := by
  have I := hid (itemsT (L := []) (base := 0) h (World.ownsRow_nil _ _ _ _) (fun b hb => by cases hb) (fun n hn => by cases hn) (by simp) hs)
  clear h
  go_enter Try.func60, Try.ntmps60
  go_wp2_with fail
  refine I.out.mono ?_
  rintro e w1 ⟨v', m, rfl, o1, hp, _, e1⟩
  obtain rfl : m = [] := by have := hp.length_eq; simp at this; exact this
  have O1 := hid o1
  have E1 := hid e1
  obtain ⟨va, vc, rfl⟩ := own_form o1
  clear I o1 hp e1
  go_wp2_with fail
  go_loopw [7, 13] (fun _ iv wr => iv = .int .i64 0 ∧ wr = w1) (fun _ _ _ => 0)
  case atStart => exact ⟨rfl, rfl⟩
  case round =>
    obtain ⟨rfl, rfl⟩ := hrel
    go_wp2
    go_ret
    exact ⟨_, rfl, O1.out, E1.out⟩
set_option maxHeartbeats 1000000 in
theorem dropT_none {F : Nat → Prop} {w : World} {pa pm : Nat} {s : St} (h : IsA w F pa pm s) (hs : s.steps ≤ 80000000) :
    Calls Try.prog 40 #[.pointer (some ⟨pa, 0, none⟩), .int .i64 (-1)] w fun e w' => ∃ v', e = .returned v' ∧ w'.ownsRow w.heap.size 3 1 v' 0 [] ∧ ∃ k, k ≤ 3 ∧ Ex F w w' pa pm (tk s k) := by
  have N := hid (nodesT_none (Ex.start h) (by omega))
  clear h
  go_enter Try.func40, Try.ntmps40
  go_wp2_with fail
  refine N.out.mono ?_
  rintro e w1 ⟨rfl, k, hk, e1⟩
  have E1 := hid e1
  clear N e1
  go_wp2_with fail
  refine (ndropT_none E1.out.is (by show s.steps + k ≤ _; omega)).mono ?_
  rintro e w2 ⟨v', rfl, o2, e2⟩
  have O2 := hid o2
  have E2 := hid e2
  obtain ⟨va, vc, rfl⟩ := own_form o2
  clear o2 e2
  go_wp2
  go_ret
  exact ⟨_, rfl, own_lower O2.out E1.out.kept.size, k, hk, E1.out.stay E2.out.is E2.out.kept⟩

set_option maxHeartbeats 2000000 in
set_option maxRecDepth 100000 in
theorem drop0_none {w0 : Fm} {w : World} {pw N K : Nat} {L : List (Nat × Int × Int)} {nx : Int} (h : Sit w0 w pw N K [] L nx) (hK : K ≤ 70000000) :
    Calls Try.prog 13 #[.pointer (some ⟨pw, 0, none⟩), .int .i64 0] w fun e w' => e = .returned (.bool true) ∧ Sit w0 w' pw N (K + 10) [] L nx := by
  have hr := h.none0
  obtain ⟨F, pa, pm, v0, v1, s, t, u, sp, mo, hw, hi, hk, hm⟩ := h
  have HW := hid hw
  have HI := hid hi
  have HK := hid hk
  have HM := hid hm
  have hroot : Tr.root t = -1 := by
    have := hi.a.len
    cases t with
    | lf => rfl
    | nd n i l r => simp [size] at this
  have HR := hid hroot
  have D := hid (fun w1 (k1 : Kept (fun _ => False) w w1) => dropT_none (hw.plain k1).is (by omega))
  obtain ⟨c0, c1, c2, c3, c4, c5, c6, c7, cf⟩ := hw.cells
  have hlt := hw.lt
  have hout := hid hw.out
  clear hw hi hk hm hroot c1 c2 c3 c4 c5 c6 c7 cf
  go_enter Try.func13, Try.ntmps13
  go_wp2_with fail
  go_region_held3 (fun w' => w'.cell? ⟨pw, 0, none⟩ = some (.pointer (some ⟨pa, 0, none⟩)) ∧ w'.cell? ⟨pw, 1, none⟩ = some (.int .i64 (-1))) (first | exact ⟨c0, hr⟩ | (simp [go_sem]; exact ⟨c0, hr⟩))
    (first
      | (go_at_call 40; refine (D.out _ (by first | exact Kept.refl _ _ | exact (Kept.refl _ _).drew | exact (Kept.refl _ _).drewN _)).mono ?_; rintro e w3 ⟨v', rfl, o3, k, hk, e3⟩; replace c0 := (e3.kept.cell (p := ⟨pw, 0, none⟩) hlt hout.out).trans c0; replace hr := (e3.kept.cell (p := ⟨pw, 1, none⟩) hlt hout.out).trans hr; have E3 := hid e3; have O3 := hid (own_lower o3 (Nat.zero_le _)); obtain ⟨va, vc, rfl⟩ := own_form o3; clear e3 o3))
  have W3 := hid (HW.out.plain ((Kept.refl _ _).drewN 1) |>.ex E3.out)
  clear c0 hr hlt hout HW D E3
  obtain ⟨c0, c1, c2, c3, c4, c5, c6, c7, cf⟩ := W3.out.cells
  obtain ⟨xa, xc, hx⟩ := W3.out.l0.form
  have CE := hid (cellsH _ _ w3 W3.out.l0 (by simp))
  have hlt3 := W3.out.lt
  subst hx
  clear c0 c1 c2 c5 c6 c7 cf
  go_wp2_with fail
  refine CE.out.mono ?_
  rintro e w4 ⟨v4, m, rfl, o4, hp, _, k4⟩
  obtain rfl : m = [] := by have := hp.length_eq; simp at this; exact this
  have SM := hid (sameN (.slice va 0 vc) v4 [] [] rfl (by simp) w4 (own_kept O3.out k4 (fun _ _ e => e)) (own_base o4 (Nat.zero_le _)))
  have W4 := hid (W3.out.plain k4)
  obtain ⟨vb, vd, rfl⟩ := own_form o4
  clear CE o4 hp k4 W3 c3 c4 hlt3 O3
  go_wp2_with fail
  refine SM.out.mono ?_
  rintro e w5 ⟨rfl, nn, rfl⟩
  have W5 := hid (W4.out.drewN nn)
  clear SM W4
  generalize w4.drewN nn = w5 at *
  go_wp2_with fail
  go_loopw [6] (fun iv wr => iv = .int .i64 0 ∧ wr = w5) (fun _ _ => 0)
  case atStart => exact ⟨rfl, rfl⟩
  case round =>
    obtain ⟨rfl, rfl⟩ := hrel
    obtain ⟨c0, c1, c2, c3, c4, c5, c6, c7, cf⟩ := W5.out.cells
    have hlt5 := W5.out.lt
    have fR := cf 1
    have fV := cf 3
    clear c0 c5 c6 c7 cf
    go_wp2_with fail
    go_region
    go_wp2
    go_ret
    have kk := ((kept_pw wr pw 1 (.int .i64 (-1))).trans' (kept_pw _ pw 3 (.slice none 0 0))).drew
    have W6 := W5.out.wrote (r0' := Tr.root t) (v0' := .slice none 0 0) (L0' := []) kk (by have b1 := blk_set (j := 3) (u := .slice none 0 0) (blk_set (j := 1) (u := .int .i64 (-1)) W5.out.blk); simp at b1; rw [show Tr.root t = -1 from HR.out]; exact b1) (Lz.nil _ _) (W5.out.l1.kept kk fun _ q => q.2)
    exact ⟨rfl, F, pa, pm, _, _, tk s k, t, u, sp, mo, W6, HI.out.tk k, by show s.steps + k ≤ _; have := HK.out; omega, HM.out⟩

set_option maxHeartbeats 2000000 in
set_option maxRecDepth 100000 in
theorem drop1_none {w0 : Fm} {w : World} {pw N K : Nat} {L : List (Nat × Int × Int)} {nx : Int} (h : Sit w0 w pw N K L [] nx) (hK : K ≤ 70000000) :
    Calls Try.prog 13 #[.pointer (some ⟨pw, 0, none⟩), .int .i64 1] w fun e w' => e = .returned (.bool true) ∧ Sit w0 w' pw N (K + 10) L [] nx := by
  have hr := h.none1
  obtain ⟨F, pa, pm, v0, v1, s, t, u, sp, mo, hw, hi, hk, hm⟩ := h
  have HW := hid hw
  have HI := hid hi
  have HK := hid hk
  have HM := hid hm
  have hroot : Tr.root u = -1 := by
    have := hi.b.len
    cases u with
    | lf => rfl
    | nd n i l r => simp [size] at this
  have HR := hid hroot
  have D := hid (fun w1 (k1 : Kept (fun _ => False) w w1) => dropT_none (hw.plain k1).is (by omega))
  obtain ⟨c0, c1, c2, c3, c4, c5, c6, c7, cf⟩ := hw.cells
  have hlt := hw.lt
  have hout := hid hw.out
  clear hw hi hk hm hroot c1 c2 c3 c4 c5 c6 c7 cf
  go_enter Try.func13, Try.ntmps13
  go_wp2_with fail
  go_region_held3 (fun w' => w'.cell? ⟨pw, 0, none⟩ = some (.pointer (some ⟨pa, 0, none⟩)) ∧ w'.cell? ⟨pw, 2, none⟩ = some (.int .i64 (-1))) (first | exact ⟨c0, hr⟩ | (simp [go_sem]; exact ⟨c0, hr⟩))
    (first
      | (go_at_call 40; refine (D.out _ (by first | exact Kept.refl _ _ | exact (Kept.refl _ _).drew | exact (Kept.refl _ _).drewN _)).mono ?_; rintro e w3 ⟨v', rfl, o3, k, hk, e3⟩; replace c0 := (e3.kept.cell (p := ⟨pw, 0, none⟩) hlt hout.out).trans c0; replace hr := (e3.kept.cell (p := ⟨pw, 2, none⟩) hlt hout.out).trans hr; have E3 := hid e3; have O3 := hid (own_lower o3 (Nat.zero_le _)); obtain ⟨va, vc, rfl⟩ := own_form o3; clear e3 o3))
  have W3 := hid (HW.out.plain ((Kept.refl _ _).drewN 1) |>.ex E3.out)
  clear c0 hr hlt hout HW D E3
  obtain ⟨c0, c1, c2, c3, c4, c5, c6, c7, cf⟩ := W3.out.cells
  obtain ⟨xa, xc, hx⟩ := W3.out.l1.form
  have CE := hid (cellsH _ _ w3 W3.out.l1 (by simp))
  have hlt3 := W3.out.lt
  subst hx
  clear c0 c1 c2 c5 c6 c7 cf
  go_wp2_with fail
  refine CE.out.mono ?_
  rintro e w4 ⟨v4, m, rfl, o4, hp, _, k4⟩
  obtain rfl : m = [] := by have := hp.length_eq; simp at this; exact this
  have SM := hid (sameN (.slice va 0 vc) v4 [] [] rfl (by simp) w4 (own_kept O3.out k4 (fun _ _ e => e)) (own_base o4 (Nat.zero_le _)))
  have W4 := hid (W3.out.plain k4)
  obtain ⟨vb, vd, rfl⟩ := own_form o4
  clear CE o4 hp k4 W3 c3 c4 hlt3 O3
  go_wp2_with fail
  refine SM.out.mono ?_
  rintro e w5 ⟨rfl, nn, rfl⟩
  have W5 := hid (W4.out.drewN nn)
  clear SM W4
  generalize w4.drewN nn = w5 at *
  go_wp2_with fail
  go_loopw [6] (fun iv wr => iv = .int .i64 0 ∧ wr = w5) (fun _ _ => 0)
  case atStart => exact ⟨rfl, rfl⟩
  case round =>
    obtain ⟨rfl, rfl⟩ := hrel
    obtain ⟨c0, c1, c2, c3, c4, c5, c6, c7, cf⟩ := W5.out.cells
    have hlt5 := W5.out.lt
    have fR := cf 2
    have fV := cf 4
    clear c0 c5 c6 c7 cf
    go_wp2_with fail
    go_region
    go_wp2
    go_ret
    have kk := ((kept_pw wr pw 2 (.int .i64 (-1))).trans' (kept_pw _ pw 4 (.slice none 0 0))).drew
    have W6 := W5.out.wrote (r1' := Tr.root u) (v1' := .slice none 0 0) (L1' := []) kk (by have b1 := blk_set (j := 4) (u := .slice none 0 0) (blk_set (j := 2) (u := .int .i64 (-1)) W5.out.blk); simp at b1; rw [show Tr.root u = -1 from HR.out]; exact b1) (W5.out.l0.kept kk fun _ q => q.2) (Lz.nil _ _)
    exact ⟨rfl, F, pa, pm, _, _, tk s k, t, u, sp, mo, W6, HI.out.tk k, by show s.steps + k ≤ _; have := HK.out; omega, HM.out⟩
end Go.Proofs.Ytnkpopeahmjodaa

/- The laws' cut. -/
namespace Go.Proofs.Ytnkpopeahmjodaa
open Go.ChangeShapes Go.WideShapes Go.ChangeAt Go.RowKit
open Tr

set_option maxHeartbeats 2000000 in
theorem cut0_none {w0 : Fm} {w : World} {pw N K : Nat} {L0 L1 : List (Nat × Int × Int)} {nx : Int} (at0 : Int) (h : Sit w0 w pw N K L0 L1 nx) (h0 : L0 = []) :
    Calls Try.prog 10 #[.pointer (some ⟨pw, 0, none⟩), .int .i64 0, .int .i64 at0] w fun e w' => e = .returned (.bool true) ∧ Sit w0 w' pw N K L0 L1 nx := by
  obtain ⟨F, pa, pm, v0, v1, s, t, u, sp, mo, hw, hi, hk, hm⟩ := h
  have HS := hid (show Sit w0 w pw N K L0 L1 nx from ⟨F, pa, pm, v0, v1, s, t, u, sp, mo, hw, hi, hk, hm⟩)
  obtain ⟨c0, c1, c2, c3, c4, c5, c6, c7, cf⟩ := hw.cells
  have hlt := hw.lt
  obtain ⟨va, vc, hv⟩ := hw.l0.form
  rw [h0] at hv
  subst hv
  clear hw hi hk hm h0 c0 c1 c2 c5 c6 c7 cf
  go_enter Try.func10, Try.ntmps10
  go_wp2
  go_ret
  exact ⟨rfl, HS.out⟩

set_option maxHeartbeats 4000000 in
set_option maxRecDepth 100000 in
theorem cut0_some {w0 : Fm} {w : World} {pw N K : Nat} {L0 L1 : List (Nat × Int × Int)} {nx : Int} (at0 : Int) (hat : I64 at0) (h : Sit w0 w pw N K L0 L1 nx) (h0 : L0 ≠ []) (hl : L0.length ≤ 700) (hl' : L1.length ≤ 700) (hK : K ≤ 90000000) :
    Calls Try.prog 10 #[.pointer (some ⟨pw, 0, none⟩), .int .i64 0, .int .i64 at0] w fun e w' => e = .returned (.bool true) ∧ Sit w0 w' pw N (K + 2000) (cutL at0 L0) L1 nx := by
  obtain ⟨F, pa, pm, v0, v1, s, t, u, sp, mo, hw, hi, hk, hm⟩ := h
  have hpos : 0 < L0.length := List.length_pos_iff.2 h0
  obtain ⟨hkl, hke⟩ := winN_lt at0 hpos
  obtain ⟨k, hkk⟩ : ∃ k, k = winN at0 L0.length := ⟨_, rfl⟩
  rw [← hkk] at hkl hke
  have hx : L0[k]? = some L0[k] := List.getElem?_eq_getElem hkl
  obtain ⟨x, hxx⟩ : ∃ x, x = L0[k] := ⟨_, rfl⟩
  rw [← hxx] at hx
  clear hxx
  obtain ⟨hL, hk1⟩ := split_at hx
  have hb10 := bts_le 10 L0.length (by omega)
  have HW := hid hw
  have HK := hid hk
  have HM := hid hm
  have HI := hid hi
  have HX := hid hx
  have HL := hid hL
  have HK1 := hid hk1
  have HKK := hid hkk
  obtain ⟨c0, c1, c2, c3, c4, c5, c6, c7, cf⟩ := hw.cells
  have hlt := hw.lt
  have hout := hid hw.out
  obtain ⟨b, cap, hv, _, hb, hP, x1, x2, x3⟩ := hw.l0.at hx
  subst hv
  have hbF := hid hP.1
  have hbp : b ≠ pw := hP.2
  have hpb : pw ≠ b := fun e => hbp e.symm
  obtain ⟨len, hlen⟩ : ∃ len, len = L0.length := ⟨_, rfl⟩
  have HLEN := hid hlen
  have HL0 := hid hl
  have HL1 := hid hl'
  have hlen1 : ((len : Int) == 0) = false := by simp; omega
  have hwd : IntKind.i64.wrap ((len : Int) - 1) = (len : Int) - 1 := IntWalk.i64_in _ (by omega)
  have WI := hid (fun w1 => within_eq at0 hat ((len : Int) - 1) (by omega) (by omega) w1)
  rw [hlen, hke, ← hlen] at WI
  rw [← hlen] at hkl c3 hb10
  have hlen7 : len ≤ 700 := by omega
  have hkl' : (k : Int) < (len : Int) := by omega
  have P := hid (fun w1 (k1 : Kept (fun _ => False) w w1) => cutC hi (by omega) (by omega) hL ((Aft.start hw.is).plain k1) (by omega))
  have M := hid (fun w1 (k1 : Kept (fun _ => False) w w1) => meterA pa pm s F w1 (hw.plain k1).is)
  have T := hid (fun w1 (k1 : Kept (fun _ => False) w w1) => stepsA pa pm s F w1 (hw.plain k1).is)
  clear hw hi hk hm h0 hx hL hk1 hkk hlen hke hP hl hl' x2 x3 hpos c5 c6 c7 cf hat
  generalize hq : s.steps = q at *
  have HQ := hid hq
  have hq1 : q ≤ 90000000 := by have := HK.out; omega
  clear hq
  go_enter Try.func10, Try.ntmps10
  go_wp2_with fail
  refine (WI.out _).mono ?_
  rintro e w1 ⟨rfl, rfl⟩
  clear WI
  go_wp2_with fail
  refine (M.out _ (Kept.refl _ _)).mono ?_
  rintro e w1 ⟨rfl, rfl⟩
  go_wp2_with fail
  refine (T.out _ (Kept.refl _ _)).mono ?_
  rintro e w2 ⟨rfl, rfl⟩
  clear M T x1 hb
  generalize hxi : x.1 = i at *
  have HXI := hid hxi
  clear hxi
  go_wp2_with fail
  go_region_held3 (fun w' => w'.cell? ⟨pw, 0, none⟩ = some (.pointer (some ⟨pa, 0, none⟩)) ∧ w'.cell? ⟨pw, 1, none⟩ = some (.int .i64 (Tr.root t))) (first | exact ⟨c0, c1⟩ | (simp [go_sem]; exact ⟨c0, c1⟩))
    (first
      | (go_at_call 36; refine (P.out _ (by first | exact Kept.refl _ _ | exact (Kept.refl _ _).drew | exact (Kept.refl _ _).drewN _)).mono ?_; rintro e w3 ⟨t', s3, rfl, e3, i3, m3, ge3, le3⟩; replace c0 := (e3.kept.cell (p := ⟨pw, 0, none⟩) hlt hout.out).trans c0; replace c1 := (e3.kept.cell (p := ⟨pw, 1, none⟩) hlt hout.out).trans c1; have E3 := hid e3; have I3 := hid i3; have M3 := hid m3; have GE3 := hid ge3; have LE3 := hid le3; clear e3 i3 m3 ge3 le3))
  have W3 := hid (HW.out.aft E3.out)
  clear c0 c1 c2 c3 c4 hout HW P
  generalize Grow F w2 w3 = G at W3
  obtain ⟨c0, c1, c2, c3, c4, c5, c6, c7, cf⟩ := W3.out.cells
  have hlt3 := W3.out.lt
  have C := hid (costW L0.length q (by have := HLEN.out; omega) W3.out GE3.out (by have h1 := LE3.out; rw [← HLEN.out] at h1; omega))
  rw [show decide (s3.steps ≤ q + (500 + 400 * bts L0.length)) = true by simp; have := LE3.out; omega, ← HLEN.out] at C
  rw [← HLEN.out] at c3
  clear c0 c1 c2 c5 c6 c7 cf
  go_wp2_with fail
  refine C.out.mono ?_
  rintro e w4 ⟨rfl, sp', mo', h4⟩
  have H4 := hid h4
  clear h4 C c3 c4 W3 hlt3
  obtain ⟨c0, c1, c2, c3, c4, c5, c6, c7, cf⟩ := H4.out.cells
  have hlt4 := H4.out.lt
  have fR := cf 1
  have fV := cf 3
  clear c5 c6 c7 cf
  generalize hrt : Tr.root t' = m at *
  have HRT := hid hrt
  clear hrt
  have kk := kept_pw w4 pw 1 (.int .i64 m)
  have W6 := hid (H4.out.wrote (r0' := m) kk (by have b1 := blk_set (j := 1) (u := .int .i64 m) H4.out.blk; simp at b1; exact b1) (H4.out.l0.kept kk fun _ q => q.2) (H4.out.l1.kept kk fun _ q => q.2))
  clear kk
  go_upto_region 10 with fail
  clear c0 c1 c2 c3 c4 fR fV
  obtain ⟨w7, hw7⟩ : ∃ w7, w7 = w4.setCell ⟨pw, 1, none⟩ (.int .i64 m) := ⟨_, rfl⟩
  rw [← hw7] at W6 ⊢
  clear hw7
  have W7 := W6
  obtain ⟨c0, c1, c2, c3, c4, c5, c6, c7, cf⟩ := W7.out.cells
  have hlt7 := W7.out.lt
  have fV := cf 3
  have L7 : Lz (fun b => ¬ G b ∧ b ≠ pw) w7 (.slice (some ⟨b, 0, none⟩) len cap) (L0.take k ++ x :: L0.drop (k + 1)) := by
    have := W7.out.l0
    have e : L0.take k ++ x :: L0.drop (k + 1) = L0 := HL.out.symm
    rw [e]; exact this
  have WO := hid (fun w1 (k1 : Kept (fun _ => False) w7 w1) => withoutN _ (L0.take k) (L0.drop (k + 1)) x w1 (L7.kept k1 fun _ _ e => e) (by have e : L0.take k ++ x :: L0.drop (k + 1) = L0 := HL.out.symm; rw [e]; have := HLEN.out; omega))
  obtain ⟨len2, hl2⟩ : ∃ len2, len2 = k + (L0.drop (k + 1)).length := ⟨_, rfl⟩
  rw [HK1.out, ← hl2] at WO
  have HL2 := hid hl2
  clear hl2
  clear c1 c2 c5 c6 c7 cf L7
  go_wp2_with fail
  go_region_with (go_at_call 35; refine (WO.out _ (by first | exact Kept.refl _ _ | exact (Kept.refl _ _).drew | exact (Kept.refl _ _).drewN _)).mono ?_; rintro e w8 ⟨v', rfl, o8, k8⟩; obtain ⟨va8, vc8, rfl⟩ := own_form o8; have fV8 := (World.frozen?_of_block (k8.block pw hlt7 (fun e => e))).trans fV; have hlt8 := Nat.lt_of_lt_of_le hlt7 k8.size; replace c3 := (k8.cell (p := ⟨pw, 3, none⟩) hlt7 (fun e => e)).trans c3; replace c0 := (k8.cell (p := ⟨pw, 0, none⟩) hlt7 (fun e => e)).trans c0; have O8 := hid o8; have K8 := hid k8; clear o8 k8)
  all_goals
    have ep : cutL at0 L0 = L0.take k ++ L0.drop (k + 1) := by unfold cutL; rw [← HKK.out]
    have el : (L0.take k ++ L0.drop (k + 1)).length = len2 := by rw [List.length_append, HK1.out, HL2.out]
    have W8 := hid (W7.out.plain (((Kept.refl _ _).drewN 1).trans' K8.out))
    have kk := kept_pw w8 pw 3 (.slice va8 len2 vc8)
    have LZ : Lz (fun b => ¬ G b ∧ b ≠ pw) w8 (.slice va8 len2 vc8) (L0.take k ++ L0.drop (k + 1)) := Lz.of_own (base := w7.heap.size) (by rw [el]; exact O8.out) (fun b hb _ => ⟨fun z => by have := W7.out.is.lt b z; omega, by omega⟩)
    have W9 := hid (W8.out.wrote (v0' := .slice va8 len2 vc8) kk (by have b1 := blk_set (j := 3) (u := .slice va8 len2 vc8) W8.out.blk; simp at b1; exact b1) (LZ.kept kk fun _ q => q.2) (W8.out.l1.kept kk fun _ q => q.2))
    have b12 := hid (show s3.steps ≤ q + (200 + 100 * 10) by have h1 := LE3.out; rw [← HLEN.out] at h1; omega)
    have ND := hid (fun n => nodeT (i : Int) (Ex.start (W9.out.drewN n).is) (by have := b12.out; omega))
    rw [show cellS s3 (i : Int) 9 = -1 from cell_neg (j := 9) I3.out.live (by decide) I3.out.free] at ND
    have EP := hid ep
    clear ep el kk LZ
    go_wp2_with fail
    refine (ND.out 0).mono ?_
    rintro e w10 ⟨rfl, e10⟩
    have W10 := hid (W9.out.ex e10)
    clear ND e10
    have GV := hid (giveT (i : Int) (Aft.start W10.out.is) (by show s3.steps + 1 ≤ _; have := b12.out; omega))
    rw [show liveS (tk s3 1) (i : Int) = true from I3.out.live] at GV
    obtain ⟨c0, _⟩ := W10.out.cells
    have hlt10 := W10.out.lt
    go_wp2_with fail
    refine GV.out.mono ?_
    rintro e w11 ⟨rfl, e11⟩
    have W11 := hid (W10.out.aft e11)
    clear GV e11
    go_wp2
    go_ret
    have Z1 := W11.out
    rw [← EP.out, ← HRT.out] at Z1
    have Z2 := (give_inv (I3.out.tk 1))
    rw [← EP.out] at Z2
    exact ⟨rfl, _, pa, pm, _, _, _, _, _, sp', mo', Z1, Z2, by rw [give_steps]; show s3.steps + 1 + 1 ≤ _; have := b12.out; have := HK.out; have := HQ.out; omega, by rw [give_most]; exact M3.out.trans HM.out⟩

end Go.Proofs.Ytnkpopeahmjodaa

/- The laws' cut. -/
namespace Go.Proofs.Ytnkpopeahmjodaa
open Go.ChangeShapes Go.WideShapes Go.ChangeAt Go.RowKit
open Tr

set_option maxHeartbeats 2000000 in
theorem cut1_none {w0 : Fm} {w : World} {pw N K : Nat} {L0 L1 : List (Nat × Int × Int)} {nx : Int} (at0 : Int) (h : Sit w0 w pw N K L0 L1 nx) (h0 : L1 = []) :
    Calls Try.prog 10 #[.pointer (some ⟨pw, 0, none⟩), .int .i64 1, .int .i64 at0] w fun e w' => e = .returned (.bool true) ∧ Sit w0 w' pw N K L0 L1 nx := by
  obtain ⟨F, pa, pm, v0, v1, s, t, u, sp, mo, hw, hi, hk, hm⟩ := h
  have HS := hid (show Sit w0 w pw N K L0 L1 nx from ⟨F, pa, pm, v0, v1, s, t, u, sp, mo, hw, hi, hk, hm⟩)
  obtain ⟨c0, c1, c2, c3, c4, c5, c6, c7, cf⟩ := hw.cells
  have hlt := hw.lt
  obtain ⟨va, vc, hv⟩ := hw.l1.form
  rw [h0] at hv
  subst hv
  clear hw hi hk hm h0 c0 c1 c2 c5 c6 c7 cf
  go_enter Try.func10, Try.ntmps10
  go_wp2
  go_ret
  exact ⟨rfl, HS.out⟩

set_option maxHeartbeats 4000000 in
set_option maxRecDepth 100000 in
theorem cut1_some {w0 : Fm} {w : World} {pw N K : Nat} {L0 L1 : List (Nat × Int × Int)} {nx : Int} (at0 : Int) (hat : I64 at0) (h : Sit w0 w pw N K L0 L1 nx) (h0 : L1 ≠ []) (hl : L0.length ≤ 700) (hl' : L1.length ≤ 700) (hK : K ≤ 90000000) :
    Calls Try.prog 10 #[.pointer (some ⟨pw, 0, none⟩), .int .i64 1, .int .i64 at0] w fun e w' => e = .returned (.bool true) ∧ Sit w0 w' pw N (K + 2000) L0 (cutL at0 L1) nx := by
  obtain ⟨F, pa, pm, v0, v1, s, t, u, sp, mo, hw, hi, hk, hm⟩ := h
  have hpos : 0 < L1.length := List.length_pos_iff.2 h0
  obtain ⟨hkl, hke⟩ := winN_lt at0 hpos
  obtain ⟨k, hkk⟩ : ∃ k, k = winN at0 L1.length := ⟨_, rfl⟩
  rw [← hkk] at hkl hke
  have hx : L1[k]? = some L1[k] := List.getElem?_eq_getElem hkl
  obtain ⟨x, hxx⟩ : ∃ x, x = L1[k] := ⟨_, rfl⟩
  rw [← hxx] at hx
  clear hxx
  obtain ⟨hL, hk1⟩ := split_at hx
  have hb10 := bts_le 10 L1.length (by omega)
  have HW := hid hw
  have HK := hid hk
  have HM := hid hm
  have HI := hid hi
  have HX := hid hx
  have HL := hid hL
  have HK1 := hid hk1
  have HKK := hid hkk
  obtain ⟨c0, c1, c2, c3, c4, c5, c6, c7, cf⟩ := hw.cells
  have hlt := hw.lt
  have hout := hid hw.out
  obtain ⟨b, cap, hv, _, hb, hP, x1, x2, x3⟩ := hw.l1.at hx
  subst hv
  have hbF := hid hP.1
  have hbp : b ≠ pw := hP.2
  have hpb : pw ≠ b := fun e => hbp e.symm
  obtain ⟨len, hlen⟩ : ∃ len, len = L1.length := ⟨_, rfl⟩
  have HLEN := hid hlen
  have HL0 := hid hl
  have HL1 := hid hl'
  have hlen1 : ((len : Int) == 0) = false := by simp; omega
  have hwd : IntKind.i64.wrap ((len : Int) - 1) = (len : Int) - 1 := IntWalk.i64_in _ (by omega)
  have WI := hid (fun w1 => within_eq at0 hat ((len : Int) - 1) (by omega) (by omega) w1)
  rw [hlen, hke, ← hlen] at WI
  rw [← hlen] at hkl c4 hb10
  have hlen7 : len ≤ 700 := by omega
  have hkl' : (k : Int) < (len : Int) := by omega
  have P := hid (fun w1 (k1 : Kept (fun _ => False) w w1) => cutC hi.swap (by omega) (by omega) hL ((Aft.start hw.is).plain k1) (by omega))
  have M := hid (fun w1 (k1 : Kept (fun _ => False) w w1) => meterA pa pm s F w1 (hw.plain k1).is)
  have T := hid (fun w1 (k1 : Kept (fun _ => False) w w1) => stepsA pa pm s F w1 (hw.plain k1).is)
  clear hw hi hk hm h0 hx hL hk1 hkk hlen hke hP hl hl' x2 x3 hpos c5 c6 c7 cf hat
  generalize hq : s.steps = q at *
  have HQ := hid hq
  have hq1 : q ≤ 90000000 := by have := HK.out; omega
  clear hq
  go_enter Try.func10, Try.ntmps10
  go_wp2_with fail
  refine (WI.out _).mono ?_
  rintro e w1 ⟨rfl, rfl⟩
  clear WI
  go_wp2_with fail
  refine (M.out _ (Kept.refl _ _)).mono ?_
  rintro e w1 ⟨rfl, rfl⟩
  go_wp2_with fail
  refine (T.out _ (Kept.refl _ _)).mono ?_
  rintro e w2 ⟨rfl, rfl⟩
  clear M T x1 hb
  generalize hxi : x.1 = i at *
  have HXI := hid hxi
  clear hxi
  go_wp2_with fail
  go_region_held3 (fun w' => w'.cell? ⟨pw, 0, none⟩ = some (.pointer (some ⟨pa, 0, none⟩)) ∧ w'.cell? ⟨pw, 2, none⟩ = some (.int .i64 (Tr.root u))) (first | exact ⟨c0, c2⟩ | (simp [go_sem]; exact ⟨c0, c2⟩))
    (first
      | (go_at_call 36; refine (P.out _ (by first | exact Kept.refl _ _ | exact (Kept.refl _ _).drew | exact (Kept.refl _ _).drewN _)).mono ?_; rintro e w3 ⟨t', s3, rfl, e3, i3, m3, ge3, le3⟩; replace c0 := (e3.kept.cell (p := ⟨pw, 0, none⟩) hlt hout.out).trans c0; replace c2 := (e3.kept.cell (p := ⟨pw, 2, none⟩) hlt hout.out).trans c2; have E3 := hid e3; have I3 := hid i3; have M3 := hid m3; have GE3 := hid ge3; have LE3 := hid le3; clear e3 i3 m3 ge3 le3))
  have W3 := hid (HW.out.aft E3.out)
  clear c0 c1 c2 c3 c4 hout HW P
  generalize Grow F w2 w3 = G at W3
  obtain ⟨c0, c1, c2, c3, c4, c5, c6, c7, cf⟩ := W3.out.cells
  have hlt3 := W3.out.lt
  have C := hid (costW L1.length q (by have := HLEN.out; omega) W3.out GE3.out (by have h1 := LE3.out; rw [← HLEN.out] at h1; omega))
  rw [show decide (s3.steps ≤ q + (500 + 400 * bts L1.length)) = true by simp; have := LE3.out; omega, ← HLEN.out] at C
  rw [← HLEN.out] at c4
  clear c0 c1 c2 c5 c6 c7 cf
  go_wp2_with fail
  refine C.out.mono ?_
  rintro e w4 ⟨rfl, sp', mo', h4⟩
  have H4 := hid h4
  clear h4 C c3 c4 W3 hlt3
  obtain ⟨c0, c1, c2, c3, c4, c5, c6, c7, cf⟩ := H4.out.cells
  have hlt4 := H4.out.lt
  have fR := cf 2
  have fV := cf 4
  clear c5 c6 c7 cf
  generalize hrt : Tr.root t' = m at *
  have HRT := hid hrt
  clear hrt
  have kk := kept_pw w4 pw 2 (.int .i64 m)
  have W6 := hid (H4.out.wrote (r1' := m) kk (by have b1 := blk_set (j := 2) (u := .int .i64 m) H4.out.blk; simp at b1; exact b1) (H4.out.l0.kept kk fun _ q => q.2) (H4.out.l1.kept kk fun _ q => q.2))
  clear kk
  go_upto_region 10 with fail
  clear c0 c1 c2 c3 c4 fR fV
  obtain ⟨w7, hw7⟩ : ∃ w7, w7 = w4.setCell ⟨pw, 2, none⟩ (.int .i64 m) := ⟨_, rfl⟩
  rw [← hw7] at W6 ⊢
  clear hw7
  have W7 := W6
  obtain ⟨c0, c1, c2, c3, c4, c5, c6, c7, cf⟩ := W7.out.cells
  have hlt7 := W7.out.lt
  have fV := cf 4
  have L7 : Lz (fun b => ¬ G b ∧ b ≠ pw) w7 (.slice (some ⟨b, 0, none⟩) len cap) (L1.take k ++ x :: L1.drop (k + 1)) := by
    have := W7.out.l1
    have e : L1.take k ++ x :: L1.drop (k + 1) = L1 := HL.out.symm
    rw [e]; exact this
  have WO := hid (fun w1 (k1 : Kept (fun _ => False) w7 w1) => withoutN _ (L1.take k) (L1.drop (k + 1)) x w1 (L7.kept k1 fun _ _ e => e) (by have e : L1.take k ++ x :: L1.drop (k + 1) = L1 := HL.out.symm; rw [e]; have := HLEN.out; omega))
  obtain ⟨len2, hl2⟩ : ∃ len2, len2 = k + (L1.drop (k + 1)).length := ⟨_, rfl⟩
  rw [HK1.out, ← hl2] at WO
  have HL2 := hid hl2
  clear hl2
  clear c1 c2 c5 c6 c7 cf L7
  go_wp2_with fail
  go_region_with (go_at_call 35; refine (WO.out _ (by first | exact Kept.refl _ _ | exact (Kept.refl _ _).drew | exact (Kept.refl _ _).drewN _)).mono ?_; rintro e w8 ⟨v', rfl, o8, k8⟩; obtain ⟨va8, vc8, rfl⟩ := own_form o8; have fV8 := (World.frozen?_of_block (k8.block pw hlt7 (fun e => e))).trans fV; have hlt8 := Nat.lt_of_lt_of_le hlt7 k8.size; replace c4 := (k8.cell (p := ⟨pw, 4, none⟩) hlt7 (fun e => e)).trans c4; replace c0 := (k8.cell (p := ⟨pw, 0, none⟩) hlt7 (fun e => e)).trans c0; have O8 := hid o8; have K8 := hid k8; clear o8 k8)
  all_goals
    have ep : cutL at0 L1 = L1.take k ++ L1.drop (k + 1) := by unfold cutL; rw [← HKK.out]
    have el : (L1.take k ++ L1.drop (k + 1)).length = len2 := by rw [List.length_append, HK1.out, HL2.out]
    have W8 := hid (W7.out.plain (((Kept.refl _ _).drewN 1).trans' K8.out))
    have kk := kept_pw w8 pw 4 (.slice va8 len2 vc8)
    have LZ : Lz (fun b => ¬ G b ∧ b ≠ pw) w8 (.slice va8 len2 vc8) (L1.take k ++ L1.drop (k + 1)) := Lz.of_own (base := w7.heap.size) (by rw [el]; exact O8.out) (fun b hb _ => ⟨fun z => by have := W7.out.is.lt b z; omega, by omega⟩)
    have W9 := hid (W8.out.wrote (v1' := .slice va8 len2 vc8) kk (by have b1 := blk_set (j := 4) (u := .slice va8 len2 vc8) W8.out.blk; simp at b1; exact b1) (W8.out.l0.kept kk fun _ q => q.2) (LZ.kept kk fun _ q => q.2))
    have b12 := hid (show s3.steps ≤ q + (200 + 100 * 10) by have h1 := LE3.out; rw [← HLEN.out] at h1; omega)
    have ND := hid (fun n => nodeT (i : Int) (Ex.start (W9.out.drewN n).is) (by have := b12.out; omega))
    rw [show cellS s3 (i : Int) 9 = -1 from cell_neg (j := 9) I3.out.live (by decide) I3.out.free] at ND
    have EP := hid ep
    clear ep el kk LZ
    go_wp2_with fail
    refine (ND.out 0).mono ?_
    rintro e w10 ⟨rfl, e10⟩
    have W10 := hid (W9.out.ex e10)
    clear ND e10
    have GV := hid (giveT (i : Int) (Aft.start W10.out.is) (by show s3.steps + 1 ≤ _; have := b12.out; omega))
    rw [show liveS (tk s3 1) (i : Int) = true from I3.out.live] at GV
    obtain ⟨c0, _⟩ := W10.out.cells
    have hlt10 := W10.out.lt
    go_wp2_with fail
    refine GV.out.mono ?_
    rintro e w11 ⟨rfl, e11⟩
    have W11 := hid (W10.out.aft e11)
    clear GV e11
    go_wp2
    go_ret
    have Z1 := W11.out
    rw [← EP.out, ← HRT.out] at Z1
    have Z2 := (give_inv (I3.out.tk 1)).swap
    rw [← EP.out] at Z2
    exact ⟨rfl, _, pa, pm, _, _, _, _, _, sp', mo', Z1, Z2, by rw [give_steps]; show s3.steps + 1 + 1 ≤ _; have := b12.out; have := HK.out; have := HQ.out; omega, by rw [give_most]; exact M3.out.trans HM.out⟩

end Go.Proofs.Ytnkpopeahmjodaa

/- The laws' meld into the first heap. -/
namespace Go.Proofs.Ytnkpopeahmjodaa
open Go.ChangeShapes Go.WideShapes Go.ChangeAt Go.RowKit
open Tr

set_option maxHeartbeats 8000000 in
set_option maxRecDepth 100000 in
theorem meld0 {w0 : Fm} {w : World} {pw N K : Nat} {L0 L1 : List (Nat × Int × Int)} {nx : Int} (h : Sit w0 w pw N K L0 L1 nx) (hl : L0.length + L1.length ≤ 700) (hK : K ≤ 90000000) :
    Calls Try.prog 11 #[.pointer (some ⟨pw, 0, none⟩), .int .i64 0] w fun e w' => e = .returned (.bool true) ∧ Sit w0 w' pw N (K + 1500) (L0 ++ L1) [] nx := by
  obtain ⟨F, pa, pm, v0, v1, s, t, u, sp, mo, hw, hi, hk, hm⟩ := h
  have PI := hid (fun q => meld_inv hi (by omega) q)
  obtain ⟨r1, r2, _⟩ := PI.out 0
  have hs0 := hi.a.len
  have hs1 := hi.b.len
  have RK := hid (Nat.le_trans (rank_bts hi.a.gd.lft) (bts_mono (show t.size ≤ L0.length + L1.length by omega)))
  have RK2 := hid (Nat.le_trans (rank_bts hi.b.gd.lft) (bts_mono (show u.size ≤ L0.length + L1.length by omega)))
  have b20 := bts_le 20 (L0.length + L1.length) (by omega)
  have rcl : ∀ t : Tr, Hp (LS s) (hasS s) t → Cl t.root := fun t ht => by
    cases t with
    | lf => exact Cl.none
    | nd a b c d => exact ls_cl hi.ok ht.1.1
  have MD := hid (fun w1 (k1 : Kept (fun _ => False) w w1) => MeldT (t.rank + u.rank + 1) t.root u.root (rcl t hi.a.gd.hp) (rcl u hi.b.gd.hp) (fun k => by rw [r1, r2]; exact (PI.out k).2.2.1) (by rw [hm]; have := hi.ok.top; omega) ((Ex.start hw.is).plain k1) (by have := RK.out; have := RK2.out; omega))
  rw [r1, r2] at MD
  have HW := hid hw
  have HKK := hid hk
  have HM := hid hm
  have M := hid (meterA pa pm s F w hw.is)
  have T := hid (stepsA pa pm s F w hw.is)
  obtain ⟨va, vc, e0⟩ := hw.l0.form
  obtain ⟨vb, vd, e1⟩ := hw.l1.form
  subst e0 e1
  obtain ⟨c0, c1, c2, c3, c4, c5, c6, c7, cf⟩ := hw.cells
  have hlt := hw.lt
  have hout := hid hw.out
  obtain ⟨n0, hn0⟩ : ∃ n, n = L0.length := ⟨_, rfl⟩
  obtain ⟨n1, hn1⟩ : ∃ n, n = L1.length := ⟨_, rfl⟩
  have HN0 := hid hn0
  have HN1 := hid hn1
  rw [← hn0, ← hn1] at hl b20 RK RK2
  obtain ⟨mm, hmm⟩ : ∃ mm : Nat, (n0 : Int) + (n1 : Int) = (mm : Int) := ⟨n0 + n1, by omega⟩
  have HMM := hid (show mm = n0 + n1 by omega)
  have hw1 : IntKind.i64.wrap (mm : Int) = (mm : Int) := IntWalk.i64_in _ (by omega)
  obtain ⟨q, hq⟩ : ∃ q, q = s.steps := ⟨_, rfl⟩
  rw [← hq] at T
  have HQ := hid hq
  have hq1 : q ≤ 90000000 := by omega
  clear hw hi hk hm hs0 hs1 r1 r2 rcl hn0 hn1 hq c3 c4 c5 c6 c7 cf
  have h10 : (1 : Int) - 0 = 1 := by decide
  have h10w : IntKind.i64.wrap 1 = 1 := by decide
  go_enter Try.func11, Try.ntmps11
  go_wp2_with fail
  refine M.out.mono ?_
  rintro e wA ⟨rfl, rfl⟩
  go_wp2_with fail
  refine T.out.mono ?_
  rintro e wB ⟨rfl, rfl⟩
  clear M T
  go_wp2_with fail
  go_region_held3 (fun w' => w'.cell? ⟨pw, 0, none⟩ = some (.pointer (some ⟨pa, 0, none⟩)) ∧ w'.cell? ⟨pw, 1, none⟩ = some (.int .i64 t.root) ∧ w'.cell? ⟨pw, 2, none⟩ = some (.int .i64 u.root)) (first | exact ⟨c0, c1, c2⟩ | (simp [go_sem]; exact ⟨c0, c1, c2⟩))
    (first
      | (go_at_call 38; refine (MD.out _ (by first | exact Kept.refl _ _ | exact (Kept.refl _ _).drew | exact (Kept.refl _ _).drewN _)).mono ?_; rintro e w3 ⟨k, hk, rfl, e3⟩; replace c0 := (e3.kept.cell (p := ⟨pw, 0, none⟩) hlt hout.out).trans c0; replace c1 := (e3.kept.cell (p := ⟨pw, 1, none⟩) hlt hout.out).trans c1; replace c2 := (e3.kept.cell (p := ⟨pw, 2, none⟩) hlt hout.out).trans c2; have E3 := hid e3; clear e3))
  obtain ⟨_, _, _, t', hrt, hin⟩ := PI.out k
  have ST := hid (show (meldS (t.rank + u.rank + 1) (tk s k) t.root u.root).2.steps ≤ q + 6 + 18 * (t.rank + u.rank + 1) by
    have := meld_steps (t.rank + u.rank + 1) (tk s k) t.root u.root
    have e : (tk s k).steps = s.steps + k := rfl
    rw [e, ← HQ.out] at this
    omega)
  have ST2 := hid (show q ≤ (meldS (t.rank + u.rank + 1) (tk s k) t.root u.root).2.steps by
    have := meld_steps_ge (t.rank + u.rank + 1) (tk s k) t.root u.root
    have e : (tk s k).steps = s.steps + k := rfl
    rw [e, ← HQ.out] at this
    omega)
  have MO := hid (show (meldS (t.rank + u.rank + 1) (tk s k) t.root u.root).2.most = N by rw [meld_most]; exact HM.out)
  have HRT := hid hrt
  have HIN := hid hin
  clear hrt hin PI MD
  generalize meldS (t.rank + u.rank + 1) (tk s k) t.root u.root = ms at *
  obtain ⟨m, s3⟩ := ms
  have W3 := hid (HW.out.ex E3.out)
  clear c0 c1 c2 HW E3
  rw [← HN0.out, ← HN1.out] at W3
  obtain ⟨c0, c1, c2, c3, c4, c5, c6, c7, cf⟩ := W3.out.cells
  have hlt3 := W3.out.lt
  have CO := hid (fun w1 (k1 : Kept (fun _ => False) w3 w1) => costW mm q (by have := HMM.out; omega) (W3.out.plain k1) ST2.out (by show s3.steps ≤ 100000000; have : s3.steps ≤ q + 6 + 18 * (t.rank + u.rank + 1) := ST.out; have := RK.out; have := RK2.out; omega))
  rw [show decide (s3.steps ≤ q + (500 + 400 * bts mm)) = true by rw [HMM.out]; simp; have : s3.steps ≤ q + 6 + 18 * (t.rank + u.rank + 1) := ST.out; have := RK.out; have := RK2.out; omega] at CO
  clear c0 c1 c2 c5 c6 c7 cf
  go_wp2_with fail
  go_region_held3 (fun w' => w'.cell? ⟨pw, 3, none⟩ = some (.slice va n0 vc) ∧ w'.cell? ⟨pw, 4, none⟩ = some (.slice vb n1 vd)) (first | exact ⟨c3, c4⟩ | (simp [go_sem]; exact ⟨c3, c4⟩))
    (first
      | (go_at_call 25; refine (CO.out _ (by first | exact Kept.refl _ _ | exact (Kept.refl _ _).drew | exact (Kept.refl _ _).drewN _)).mono ?_; rintro e w4 ⟨rfl, sp2, mo2, h4⟩; replace c3 := h4.cells.2.2.2.1; replace c4 := h4.cells.2.2.2.2.1; have W4 := hid h4; clear h4))
  clear CO W3 hlt3 hmm hw1
  obtain ⟨_, c1, c2, _, _, _, _, _, cf⟩ := W4.out.cells
  have hlt4 := W4.out.lt
  have f1 := cf 1
  have f2 := cf 2
  clear cf c3 c4
  go_wp2_with fail
  go_region
  have kk := ((kept_pw w4 pw 1 (.int .i64 m)).trans' (kept_pw _ pw 2 (.int .i64 (-1)))).drew
  have HC : Hid (Wx w0 ((w4.setCell ⟨pw, 1, none⟩ (.int .i64 m)).setCell ⟨pw, 2, none⟩ (.int .i64 (-1))).drew F pw pa pm (.slice va n0 vc) (.slice vb n1 vd) s3 m (-1) L0 L1 nx sp2 mo2) := W4.out.wrote (r0' := m) (r1' := -1) kk (by have b1 := blk_set (j := 2) (u := .int .i64 (-1)) (blk_set (j := 1) (u := .int .i64 m) W4.out.blk); simp at b1; exact b1) (W4.out.l0.kept kk fun _ q => q.2) (W4.out.l1.kept kk fun _ q => q.2)
  clear kk W4 c1 c2 f1 f2 hlt4
  generalize ((w4.setCell ⟨pw, 1, none⟩ (.int .i64 m)).setCell ⟨pw, 2, none⟩ (.int .i64 (-1))).drew = wC at *
  obtain ⟨_, _, _, d3, d4, _, _, _, _⟩ := HC.out.cells
  have hlC := HC.out.lt
  go_wp2_with fail
  refine wp_region_noPanic ?_
  refine tl_begin (S := (fun w' => w'.cell? ⟨pw, 3, none⟩ = some (.slice va n0 vc) ∧ w'.cell? ⟨pw, 4, none⟩ = some (.slice vb n1 vd))) 24 (by kernel_rfl) ?_
  have hHeld : wC.drew.cell? ⟨pw, 3, none⟩ = some (.slice va n0 vc) ∧ wC.drew.cell? ⟨pw, 4, none⟩ = some (.slice vb n1 vd) := ⟨d3, d4⟩
  have WD : Hid (Wx w0 wC.drew F pw pa pm (.slice va n0 vc) (.slice vb n1 vd) s3 m (-1) L0 L1 nx sp2 mo2) := HC.out.drewN 1
  have hlW : pw < wC.drew.heap.size := hlC
  have S1 := hid (show Sz wC.drew.heap.size wC.drew (.slice va n0 vc) L0 from WD.out.l0.src)
  have S2 := hid (show Sz wC.drew.heap.size wC.drew (.slice vb n1 vd) L1 from WD.out.l1.src)
  have HH := hid hHeld
  clear HC d3 d4 hlC
  generalize wC.drew = W at *
  refine tl_any 0 60 (.pointer (some ⟨pw, 0, none⟩)) rfl rfl (by kernel_rfl) (by kernel_rfl) (by kernel_rfl) (fun _ _ _ h => h) (by decide) (by rfl) (fun wS => by go_simp) (by assumption) ?_
  simp only [Act.put, List.setIfInBounds_toArray, List.set_cons_zero, List.set_cons_succ]
  refine tl_any 1 61 (.int .i64 0) rfl rfl (by kernel_rfl) (by kernel_rfl) (by kernel_rfl) (fun _ _ _ h => h) (by decide) (by rfl) (fun wS => by go_simp) (by assumption) ?_
  simp only [Act.put, List.setIfInBounds_toArray, List.set_cons_zero, List.set_cons_succ]
  refine tl_any 2 62 (.pointer (some ⟨pw, 0, none⟩)) rfl rfl (by kernel_rfl) (by kernel_rfl) (by kernel_rfl) (fun _ _ _ h => h) (by decide) (by rfl) (fun wS => by go_simp) (by assumption) ?_
  simp only [Act.put, List.setIfInBounds_toArray, List.set_cons_zero, List.set_cons_succ]
  refine tl_any 3 63 (.int .i64 0) rfl rfl (by kernel_rfl) (by kernel_rfl) (by kernel_rfl) (fun _ _ _ h => h) (by decide) (by rfl) (fun wS => by go_simp) (by assumption) ?_
  simp only [Act.put, List.setIfInBounds_toArray, List.set_cons_zero, List.set_cons_succ]
  refine tl_any 4 64 (.int .i64 1) rfl rfl (by kernel_rfl) (by kernel_rfl) (by kernel_rfl) (fun _ _ _ h => h) (by decide) (by rfl) (fun wS => by (first | (go_simp; done) | (go_simp; rfl) | (go_simp; decide) | rfl)) (by assumption) ?_
  simp only [Act.put, List.setIfInBounds_toArray, List.set_cons_zero, List.set_cons_succ]
  refine tl_any 6 66 (.pointer (some ⟨pw, 0, none⟩)) rfl rfl (by kernel_rfl) (by kernel_rfl) (by kernel_rfl) (fun _ _ _ h => h) (by decide) (by rfl) (fun wS => by go_simp) (by assumption) ?_
  simp only [Act.put, List.setIfInBounds_toArray, List.set_cons_zero, List.set_cons_succ]
  refine tl_any 7 67 (.int .i64 0) rfl rfl (by kernel_rfl) (by kernel_rfl) (by kernel_rfl) (fun _ _ _ h => h) (by decide) (by rfl) (fun wS => by go_simp) (by assumption) ?_
  simp only [Act.put, List.setIfInBounds_toArray, List.set_cons_zero, List.set_cons_succ]
  refine tl_any 8 68 (.pointer (some ⟨pw, 0, none⟩)) rfl rfl (by kernel_rfl) (by kernel_rfl) (by kernel_rfl) (fun _ _ _ h => h) (by decide) (by rfl) (fun wS => by go_simp) (by assumption) ?_
  simp only [Act.put, List.setIfInBounds_toArray, List.set_cons_zero, List.set_cons_succ]
  refine tl_any 9 69 (.pointer (some ⟨pw, 3, none⟩)) rfl rfl (by kernel_rfl) (by kernel_rfl) (by kernel_rfl) (fun _ _ _ h => h) (by decide) (by rfl) (fun wS => by go_simp) (by assumption) ?_
  simp only [Act.put, List.setIfInBounds_toArray, List.set_cons_zero, List.set_cons_succ]
  refine tl_any 10 70 (.pointer (some ⟨pw, 3, none⟩)) rfl rfl (by kernel_rfl) (by kernel_rfl) (by kernel_rfl) (fun _ _ _ h => h) (by decide) (by rfl) (fun wS => by (first | (go_simp; done) | (go_simp; rfl) | (go_simp; decide) | rfl)) (by assumption) ?_
  simp only [Act.put, List.setIfInBounds_toArray, List.set_cons_zero, List.set_cons_succ]
  refine tl_take 11 71 (.slice va n0 vc) rfl rfl (by kernel_rfl) (by kernel_rfl) (by kernel_rfl) (fun _ _ _ h => h) (by decide) (by kernel_rfl) (by kernel_rfl) (by rfl) (fun wS hS => by (try dsimp only at hS); go_split_ands; go_simp) (by assumption) ?_
  simp only [Act.put, List.setIfInBounds_toArray, List.set_cons_zero, List.set_cons_succ]
  refine tl_any 13 73 (.pointer (some ⟨pw, 0, none⟩)) rfl rfl (by kernel_rfl) (by kernel_rfl) (by kernel_rfl) (fun _ _ _ h => h) (by decide) (by rfl) (fun wS => by go_simp) (by assumption) ?_
  simp only [Act.put, List.setIfInBounds_toArray, List.set_cons_zero, List.set_cons_succ]
  refine tl_any 14 74 (.int .i64 0) rfl rfl (by kernel_rfl) (by kernel_rfl) (by kernel_rfl) (fun _ _ _ h => h) (by decide) (by rfl) (fun wS => by go_simp) (by assumption) ?_
  simp only [Act.put, List.setIfInBounds_toArray, List.set_cons_zero, List.set_cons_succ]
  refine tl_any 15 75 (.int .i64 1) rfl rfl (by kernel_rfl) (by kernel_rfl) (by kernel_rfl) (fun _ _ _ h => h) (by decide) (by rfl) (fun wS => by (first | (go_simp; done) | (go_simp; rfl) | (go_simp; decide) | rfl)) (by assumption) ?_
  simp only [Act.put, List.setIfInBounds_toArray, List.set_cons_zero, List.set_cons_succ]
  refine tl_any 16 76 (.pointer (some ⟨pw, 0, none⟩)) rfl rfl (by kernel_rfl) (by kernel_rfl) (by kernel_rfl) (fun _ _ _ h => h) (by decide) (by rfl) (fun wS => by go_simp) (by assumption) ?_
  simp only [Act.put, List.setIfInBounds_toArray, List.set_cons_zero, List.set_cons_succ]
  refine tl_any 17 77 (.pointer (some ⟨pw, 3, none⟩)) rfl rfl (by kernel_rfl) (by kernel_rfl) (by kernel_rfl) (fun _ _ _ h => h) (by decide) (by rfl) (fun wS => by go_simp) (by assumption) ?_
  simp only [Act.put, List.setIfInBounds_toArray, List.set_cons_zero, List.set_cons_succ]
  refine tl_any 18 78 (.pointer (some ⟨pw, 4, none⟩)) rfl rfl (by kernel_rfl) (by kernel_rfl) (by kernel_rfl) (fun _ _ _ h => h) (by decide) (by rfl) (fun wS => by (first | (go_simp; done) | (go_simp; rfl) | (go_simp; decide) | rfl)) (by assumption) ?_
  simp only [Act.put, List.setIfInBounds_toArray, List.set_cons_zero, List.set_cons_succ]
  refine tl_take 19 79 (.slice vb n1 vd) rfl rfl (by kernel_rfl) (by kernel_rfl) (by kernel_rfl) (fun _ _ _ h => h) (by decide) (by kernel_rfl) (by kernel_rfl) (by rfl) (fun wS hS => by (try dsimp only at hS); go_split_ands; go_simp) (by assumption) ?_
  simp only [Act.put, List.setIfInBounds_toArray, List.set_cons_zero, List.set_cons_succ]
  refine tl_any 21 81 (.pointer (some ⟨pw, 0, none⟩)) rfl rfl (by kernel_rfl) (by kernel_rfl) (by kernel_rfl) (fun _ _ _ h => h) (by decide) (by rfl) (fun wS => by go_simp) (by assumption) ?_
  simp only [Act.put, List.setIfInBounds_toArray, List.set_cons_zero, List.set_cons_succ]
  refine tl_any 22 82 (.pointer (some ⟨pw, 3, none⟩)) rfl rfl (by kernel_rfl) (by kernel_rfl) (by kernel_rfl) (fun _ _ _ h => h) (by decide) (by rfl) (fun wS => by go_simp) (by assumption) ?_
  simp only [Act.put, List.setIfInBounds_toArray, List.set_cons_zero, List.set_cons_succ]
  refine tl_any 25 84 (.pointer (some ⟨pw, 0, none⟩)) rfl rfl (by kernel_rfl) (by kernel_rfl) (by kernel_rfl) (fun _ _ _ h => h) (by decide) (by rfl) (fun wS => by go_simp) (by assumption) ?_
  simp only [Act.put, List.setIfInBounds_toArray, List.set_cons_zero, List.set_cons_succ]
  refine tl_any 26 85 (.pointer (some ⟨pw, 3, none⟩)) rfl rfl (by kernel_rfl) (by kernel_rfl) (by kernel_rfl) (fun _ _ _ h => h) (by decide) (by rfl) (fun wS => by go_simp) (by assumption) ?_
  simp only [Act.put, List.setIfInBounds_toArray, List.set_cons_zero, List.set_cons_succ]
  clear hHeld
  refine tl_ready (rs := [5]) (by kernel_rfl) (by simp) ?_
  refine AllT.cons rfl (fun K hK => ?_) AllT.nil
  go_simp
  go_wp2_with fail
  refine hK.out _ _ (fun _ => ⟨(((Kept.refl (fun _ => False) W).alloc _).cell (p := ⟨pw, 3, none⟩) hlW (fun e => e)).trans HH.out.1, (((Kept.refl (fun _ => False) W).alloc _).cell (p := ⟨pw, 4, none⟩) hlW (fun e => e)).trans HH.out.2⟩) ?_
  clear hK K
  refine tl_ready (rs := [12]) (by kernel_rfl) (by simp) ?_
  refine AllT.cons rfl (fun K hK => ?_) AllT.nil
  refine step_append_sz rfl (.tmp 65) (.tmp 71) rfl W.heap.size W.heap.size _ _ 0 [] L0 rfl rfl (by exact lit3 W (Nat.le_refl _)) (by exact S1.out.kept ((Kept.refl (fun _ => False) W).alloc _).plain0) (by have := HN0.out; omega) (by simp <;> omega) ?_
  intro v3 w3 o3 g3
  have K3 := hid (((Kept.refl (fun _ => False) W).alloc _).grown g3 (fun k hk => Or.inr (by cases hk; simp <;> omega)))
  have O3 := hid o3
  clear o3 g3
  go_wp2_with fail
  refine hK.out _ _ (fun _ => ⟨(K3.out.cell (p := ⟨pw, 3, none⟩) hlW (fun e => e)).trans HH.out.1, (K3.out.cell (p := ⟨pw, 4, none⟩) hlW (fun e => e)).trans HH.out.2⟩) ?_
  clear hK K
  refine tl_ready (rs := [20]) (by kernel_rfl) (by simp) ?_
  refine AllT.cons rfl (fun K hK => ?_) AllT.nil
  refine step_append_sz rfl (.tmp 72) (.tmp 79) rfl W.heap.size W.heap.size v3 _ (0 + L0.length) ([] ++ row h3 L0) L1 rfl rfl (by exact O3.out) (by exact S2.out.kept K3.out.plain0) (by have := HN0.out; have := HN1.out; omega) (by exact K3.out.size) ?_
  intro v4 w4 o4 g4
  have K4 := hid (K3.out.grown g4 (fun k hk => Or.inr (O3.out.lt k hk).1))
  have O4 := hid o4
  obtain ⟨va4, vc4, rfl⟩ := own_form o4
  clear o4 g4
  generalize hn4 : 0 + L0.length + L1.length = n4 at *
  have HN4 := hid hn4
  clear hn4
  go_wp2_with fail
  refine hK.out _ _ (fun _ => ⟨(K4.out.cell (p := ⟨pw, 3, none⟩) hlW (fun e => e)).trans HH.out.1, (K4.out.cell (p := ⟨pw, 4, none⟩) hlW (fun e => e)).trans HH.out.2⟩) ?_
  clear hK K
  have hHeld : w4.cell? ⟨pw, 3, none⟩ = some (.slice va n0 vc) ∧ w4.cell? ⟨pw, 4, none⟩ = some (.slice vb n1 vd) := ⟨(K4.out.cell (p := ⟨pw, 3, none⟩) hlW (fun e => e)).trans HH.out.1, (K4.out.cell (p := ⟨pw, 4, none⟩) hlW (fun e => e)).trans HH.out.2⟩
  refine tl_any 23 83 (.pointer (some ⟨pw, 3, none⟩)) rfl rfl (by kernel_rfl) (by kernel_rfl) (by kernel_rfl) (fun _ _ _ h => h) (by decide) (by rfl) (fun wS => by (first | (go_simp; done) | (go_simp; rfl) | (go_simp; decide) | rfl)) (by assumption) ?_
  simp only [Act.put, List.setIfInBounds_toArray]
  obtain ⟨c34, c44⟩ := hHeld
  have W4 := hid (WD.out.plain K4.out)
  have hl4 := W4.out.lt
  have f34 := W4.out.cells.2.2.2.2.2.2.2.2 3
  have f44 := W4.out.cells.2.2.2.2.2.2.2.2 4
  refine tl_ready (rs := [24]) (by kernel_rfl) (by simp) ?_
  refine AllT.cons rfl (fun K hK => ?_) AllT.nil
  go_simp
  refine hK.out _ _ (fun h => Bool.noConfusion (show true = false from h)) ?_
  clear hK K
  refine tl_ready (rs := [27]) (by kernel_rfl) (by simp) ?_
  refine AllT.cons rfl (fun K hK => ?_) AllT.nil
  go_simp
  refine hK.out _ _ (fun h => Bool.noConfusion (show true = false from h)) ?_
  clear hK K
  refine tl_ready (rs := [28]) (by kernel_rfl) (by simp) ?_
  refine AllT.cons rfl (fun K hK => ?_) AllT.nil
  go_simp
  refine hK.out _ _ (fun h => Bool.noConfusion (show true = false from h)) ?_
  clear hK K
  refine tl_done (by kernel_rfl) ?_ _
  refine NoPanic.normal ?_
  go_wp2
  go_ret
  have er : row h3 (L0 ++ L1) = [] ++ row h3 L0 ++ row h3 L1 := by rw [row_append]; simp
  have el : (L0 ++ L1).length = n4 := by rw [← HN4.out]; simp
  have LZ : Lz (fun b => ¬ F b ∧ b ≠ pw) w4 (.slice va4 n4 vc4) (L0 ++ L1) := Lz.of_own (base := W.heap.size) (by rw [er, el]; exact O4.out) (fun b hb _ => ⟨fun z => by have := WD.out.is.lt b z; omega, by omega⟩)
  have kk1 := (kept_pw w4 pw 3 (.slice va4 n4 vc4)).trans' (kept_pw _ pw 4 (.slice none 0 0))
  have W6 := W4.out.wrote (v0' := .slice va4 n4 vc4) (v1' := .slice none 0 0) (L1' := []) kk1 (by have b1 := blk_set (j := 4) (u := .slice none 0 0) (blk_set (j := 3) (u := .slice va4 n4 vc4) W4.out.blk); simp at b1; exact b1) (LZ.kept kk1 fun _ q => q.2) (Lz.nil _ _)
  rw [HRT.out] at W6
  exact ⟨rfl, F, pa, pm, _, _, _, t', lf, sp2, mo2, W6, HIN.out, by have : s3.steps ≤ q + 6 + 18 * (t.rank + u.rank + 1) := ST.out; have := RK.out; have := RK2.out; have := HQ.out; have := HKK.out; omega, MO.out⟩
end Go.Proofs.Ytnkpopeahmjodaa

/- The laws' meld into the second heap. -/
namespace Go.Proofs.Ytnkpopeahmjodaa
open Go.ChangeShapes Go.WideShapes Go.ChangeAt Go.RowKit
open Tr

set_option maxHeartbeats 8000000 in
set_option maxRecDepth 100000 in
theorem meld1 {w0 : Fm} {w : World} {pw N K : Nat} {L0 L1 : List (Nat × Int × Int)} {nx : Int} (h : Sit w0 w pw N K L0 L1 nx) (hl : L1.length + L0.length ≤ 700) (hK : K ≤ 90000000) :
    Calls Try.prog 11 #[.pointer (some ⟨pw, 0, none⟩), .int .i64 1] w fun e w' => e = .returned (.bool true) ∧ Sit w0 w' pw N (K + 1500) [] (L1 ++ L0) nx := by
  obtain ⟨F, pa, pm, v0, v1, s, t, u, sp, mo, hw, hi, hk, hm⟩ := h
  have PI := hid (fun q => meld_inv hi.swap (by omega) q)
  obtain ⟨r1, r2, _⟩ := PI.out 0
  have hs0 := hi.b.len
  have hs1 := hi.a.len
  have RK := hid (Nat.le_trans (rank_bts hi.b.gd.lft) (bts_mono (show u.size ≤ L1.length + L0.length by omega)))
  have RK2 := hid (Nat.le_trans (rank_bts hi.a.gd.lft) (bts_mono (show t.size ≤ L1.length + L0.length by omega)))
  have b20 := bts_le 20 (L1.length + L0.length) (by omega)
  have rcl : ∀ t : Tr, Hp (LS s) (hasS s) t → Cl t.root := fun t ht => by
    cases t with
    | lf => exact Cl.none
    | nd a b c d => exact ls_cl hi.ok ht.1.1
  have MD := hid (fun w1 (k1 : Kept (fun _ => False) w w1) => MeldT (u.rank + t.rank + 1) u.root t.root (rcl u hi.b.gd.hp) (rcl t hi.a.gd.hp) (fun k => by rw [r1, r2]; exact (PI.out k).2.2.1) (by rw [hm]; have := hi.ok.top; omega) ((Ex.start hw.is).plain k1) (by have := RK.out; have := RK2.out; omega))
  rw [r1, r2] at MD
  have HW := hid hw
  have HKK := hid hk
  have HM := hid hm
  have M := hid (meterA pa pm s F w hw.is)
  have T := hid (stepsA pa pm s F w hw.is)
  obtain ⟨va, vc, e0⟩ := hw.l1.form
  obtain ⟨vb, vd, e1⟩ := hw.l0.form
  subst e0 e1
  obtain ⟨c0, c1, c2, c3, c4, c5, c6, c7, cf⟩ := hw.cells
  have hlt := hw.lt
  have hout := hid hw.out
  obtain ⟨n0, hn0⟩ : ∃ n, n = L1.length := ⟨_, rfl⟩
  obtain ⟨n1, hn1⟩ : ∃ n, n = L0.length := ⟨_, rfl⟩
  have HN0 := hid hn0
  have HN1 := hid hn1
  rw [← hn0, ← hn1] at hl b20 RK RK2
  obtain ⟨mm, hmm⟩ : ∃ mm : Nat, (n1 : Int) + (n0 : Int) = (mm : Int) := ⟨n0 + n1, by omega⟩
  have HMM := hid (show mm = n0 + n1 by omega)
  have hw1 : IntKind.i64.wrap (mm : Int) = (mm : Int) := IntWalk.i64_in _ (by omega)
  obtain ⟨q, hq⟩ : ∃ q, q = s.steps := ⟨_, rfl⟩
  rw [← hq] at T
  have HQ := hid hq
  have hq1 : q ≤ 90000000 := by omega
  clear hw hi hk hm hs0 hs1 r1 r2 rcl hn0 hn1 hq c4 c3 c5 c6 c7 cf
  have h10 : (1 : Int) - 1 = 0 := by decide
  have h10w : IntKind.i64.wrap 0 = 0 := by decide
  go_enter Try.func11, Try.ntmps11
  go_wp2_with fail
  refine M.out.mono ?_
  rintro e wA ⟨rfl, rfl⟩
  go_wp2_with fail
  refine T.out.mono ?_
  rintro e wB ⟨rfl, rfl⟩
  clear M T
  go_wp2_with fail
  go_region_held3 (fun w' => w'.cell? ⟨pw, 0, none⟩ = some (.pointer (some ⟨pa, 0, none⟩)) ∧ w'.cell? ⟨pw, 2, none⟩ = some (.int .i64 u.root) ∧ w'.cell? ⟨pw, 1, none⟩ = some (.int .i64 t.root)) (first | exact ⟨c0, c2, c1⟩ | (simp [go_sem]; exact ⟨c0, c2, c1⟩))
    (first
      | (go_at_call 38; refine (MD.out _ (by first | exact Kept.refl _ _ | exact (Kept.refl _ _).drew | exact (Kept.refl _ _).drewN _)).mono ?_; rintro e w3 ⟨k, hk, rfl, e3⟩; replace c0 := (e3.kept.cell (p := ⟨pw, 0, none⟩) hlt hout.out).trans c0; replace c2 := (e3.kept.cell (p := ⟨pw, 2, none⟩) hlt hout.out).trans c2; replace c1 := (e3.kept.cell (p := ⟨pw, 1, none⟩) hlt hout.out).trans c1; have E3 := hid e3; clear e3))
  obtain ⟨_, _, _, t', hrt, hin⟩ := PI.out k
  have ST := hid (show (meldS (u.rank + t.rank + 1) (tk s k) u.root t.root).2.steps ≤ q + 6 + 18 * (u.rank + t.rank + 1) by
    have := meld_steps (u.rank + t.rank + 1) (tk s k) u.root t.root
    have e : (tk s k).steps = s.steps + k := rfl
    rw [e, ← HQ.out] at this
    omega)
  have ST2 := hid (show q ≤ (meldS (u.rank + t.rank + 1) (tk s k) u.root t.root).2.steps by
    have := meld_steps_ge (u.rank + t.rank + 1) (tk s k) u.root t.root
    have e : (tk s k).steps = s.steps + k := rfl
    rw [e, ← HQ.out] at this
    omega)
  have MO := hid (show (meldS (u.rank + t.rank + 1) (tk s k) u.root t.root).2.most = N by rw [meld_most]; exact HM.out)
  have HRT := hid hrt
  have HIN := hid hin
  clear hrt hin PI MD
  generalize meldS (u.rank + t.rank + 1) (tk s k) u.root t.root = ms at *
  obtain ⟨m, s3⟩ := ms
  have W3 := hid (HW.out.ex E3.out)
  clear c0 c2 c1 HW E3
  rw [← HN0.out, ← HN1.out] at W3
  obtain ⟨c0, c1, c2, c3, c4, c5, c6, c7, cf⟩ := W3.out.cells
  have hlt3 := W3.out.lt
  have CO := hid (fun w1 (k1 : Kept (fun _ => False) w3 w1) => costW mm q (by have := HMM.out; omega) (W3.out.plain k1) ST2.out (by show s3.steps ≤ 100000000; have : s3.steps ≤ q + 6 + 18 * (u.rank + t.rank + 1) := ST.out; have := RK.out; have := RK2.out; omega))
  rw [show decide (s3.steps ≤ q + (500 + 400 * bts mm)) = true by rw [HMM.out]; simp; have : s3.steps ≤ q + 6 + 18 * (u.rank + t.rank + 1) := ST.out; have := RK.out; have := RK2.out; omega] at CO
  clear c0 c2 c1 c5 c6 c7 cf
  go_wp2_with fail
  go_region_held3 (fun w' => w'.cell? ⟨pw, 4, none⟩ = some (.slice va n0 vc) ∧ w'.cell? ⟨pw, 3, none⟩ = some (.slice vb n1 vd)) (first | exact ⟨c4, c3⟩ | (simp [go_sem]; exact ⟨c4, c3⟩))
    (first
      | (go_at_call 25; refine (CO.out _ (by first | exact Kept.refl _ _ | exact (Kept.refl _ _).drew | exact (Kept.refl _ _).drewN _)).mono ?_; rintro e w4 ⟨rfl, sp2, mo2, h4⟩; replace c4 := h4.cells.2.2.2.2.1; replace c3 := h4.cells.2.2.2.1; have W4 := hid h4; clear h4))
  clear CO W3 hlt3 hmm hw1
  obtain ⟨_, c1, c2, _, _, _, _, _, cf⟩ := W4.out.cells
  have hlt4 := W4.out.lt
  have f2 := cf 1
  have f1 := cf 2
  clear cf c4 c3
  go_wp2_with fail
  go_region
  have kk := ((kept_pw w4 pw 2 (.int .i64 m)).trans' (kept_pw _ pw 1 (.int .i64 (-1)))).drew
  have HC : Hid (Wx w0 ((w4.setCell ⟨pw, 2, none⟩ (.int .i64 m)).setCell ⟨pw, 1, none⟩ (.int .i64 (-1))).drew F pw pa pm (.slice vb n1 vd) (.slice va n0 vc) s3 (-1) m L0 L1 nx sp2 mo2) := W4.out.wrote (r0' := -1) (r1' := m) kk (by have b1 := blk_set (j := 1) (u := .int .i64 (-1)) (blk_set (j := 2) (u := .int .i64 m) W4.out.blk); simp at b1; exact b1) (W4.out.l0.kept kk fun _ q => q.2) (W4.out.l1.kept kk fun _ q => q.2)
  clear kk W4 c2 c1 f2 f1 hlt4
  generalize ((w4.setCell ⟨pw, 2, none⟩ (.int .i64 m)).setCell ⟨pw, 1, none⟩ (.int .i64 (-1))).drew = wC at *
  obtain ⟨_, _, _, d3, d4, _, _, _, _⟩ := HC.out.cells
  have hlC := HC.out.lt
  go_wp2_with fail
  refine wp_region_noPanic ?_
  refine tl_begin (S := (fun w' => w'.cell? ⟨pw, 4, none⟩ = some (.slice va n0 vc) ∧ w'.cell? ⟨pw, 3, none⟩ = some (.slice vb n1 vd))) 24 (by kernel_rfl) ?_
  have hHeld : wC.drew.cell? ⟨pw, 4, none⟩ = some (.slice va n0 vc) ∧ wC.drew.cell? ⟨pw, 3, none⟩ = some (.slice vb n1 vd) := ⟨d4, d3⟩
  have WD : Hid (Wx w0 wC.drew F pw pa pm (.slice vb n1 vd) (.slice va n0 vc) s3 (-1) m L0 L1 nx sp2 mo2) := HC.out.drewN 1
  have hlW : pw < wC.drew.heap.size := hlC
  have S1 := hid (show Sz wC.drew.heap.size wC.drew (.slice va n0 vc) L1 from WD.out.l1.src)
  have S2 := hid (show Sz wC.drew.heap.size wC.drew (.slice vb n1 vd) L0 from WD.out.l0.src)
  have HH := hid hHeld
  clear HC d4 d3 hlC
  generalize wC.drew = W at *
  refine tl_any 0 60 (.pointer (some ⟨pw, 0, none⟩)) rfl rfl (by kernel_rfl) (by kernel_rfl) (by kernel_rfl) (fun _ _ _ h => h) (by decide) (by rfl) (fun wS => by go_simp) (by assumption) ?_
  simp only [Act.put, List.setIfInBounds_toArray, List.set_cons_zero, List.set_cons_succ]
  refine tl_any 1 61 (.int .i64 1) rfl rfl (by kernel_rfl) (by kernel_rfl) (by kernel_rfl) (fun _ _ _ h => h) (by decide) (by rfl) (fun wS => by go_simp) (by assumption) ?_
  simp only [Act.put, List.setIfInBounds_toArray, List.set_cons_zero, List.set_cons_succ]
  refine tl_any 2 62 (.pointer (some ⟨pw, 0, none⟩)) rfl rfl (by kernel_rfl) (by kernel_rfl) (by kernel_rfl) (fun _ _ _ h => h) (by decide) (by rfl) (fun wS => by go_simp) (by assumption) ?_
  simp only [Act.put, List.setIfInBounds_toArray, List.set_cons_zero, List.set_cons_succ]
  refine tl_any 3 63 (.int .i64 1) rfl rfl (by kernel_rfl) (by kernel_rfl) (by kernel_rfl) (fun _ _ _ h => h) (by decide) (by rfl) (fun wS => by go_simp) (by assumption) ?_
  simp only [Act.put, List.setIfInBounds_toArray, List.set_cons_zero, List.set_cons_succ]
  refine tl_any 4 64 (.int .i64 0) rfl rfl (by kernel_rfl) (by kernel_rfl) (by kernel_rfl) (fun _ _ _ h => h) (by decide) (by rfl) (fun wS => by (first | (go_simp; done) | (go_simp; rfl) | (go_simp; decide) | rfl)) (by assumption) ?_
  simp only [Act.put, List.setIfInBounds_toArray, List.set_cons_zero, List.set_cons_succ]
  refine tl_any 6 66 (.pointer (some ⟨pw, 0, none⟩)) rfl rfl (by kernel_rfl) (by kernel_rfl) (by kernel_rfl) (fun _ _ _ h => h) (by decide) (by rfl) (fun wS => by go_simp) (by assumption) ?_
  simp only [Act.put, List.setIfInBounds_toArray, List.set_cons_zero, List.set_cons_succ]
  refine tl_any 7 67 (.int .i64 1) rfl rfl (by kernel_rfl) (by kernel_rfl) (by kernel_rfl) (fun _ _ _ h => h) (by decide) (by rfl) (fun wS => by go_simp) (by assumption) ?_
  simp only [Act.put, List.setIfInBounds_toArray, List.set_cons_zero, List.set_cons_succ]
  refine tl_any 8 68 (.pointer (some ⟨pw, 0, none⟩)) rfl rfl (by kernel_rfl) (by kernel_rfl) (by kernel_rfl) (fun _ _ _ h => h) (by decide) (by rfl) (fun wS => by go_simp) (by assumption) ?_
  simp only [Act.put, List.setIfInBounds_toArray, List.set_cons_zero, List.set_cons_succ]
  refine tl_any 9 69 (.pointer (some ⟨pw, 3, none⟩)) rfl rfl (by kernel_rfl) (by kernel_rfl) (by kernel_rfl) (fun _ _ _ h => h) (by decide) (by rfl) (fun wS => by go_simp) (by assumption) ?_
  simp only [Act.put, List.setIfInBounds_toArray, List.set_cons_zero, List.set_cons_succ]
  refine tl_any 10 70 (.pointer (some ⟨pw, 4, none⟩)) rfl rfl (by kernel_rfl) (by kernel_rfl) (by kernel_rfl) (fun _ _ _ h => h) (by decide) (by rfl) (fun wS => by (first | (go_simp; done) | (go_simp; rfl) | (go_simp; decide) | rfl)) (by assumption) ?_
  simp only [Act.put, List.setIfInBounds_toArray, List.set_cons_zero, List.set_cons_succ]
  refine tl_take 11 71 (.slice va n0 vc) rfl rfl (by kernel_rfl) (by kernel_rfl) (by kernel_rfl) (fun _ _ _ h => h) (by decide) (by kernel_rfl) (by kernel_rfl) (by rfl) (fun wS hS => by (try dsimp only at hS); go_split_ands; go_simp) (by assumption) ?_
  simp only [Act.put, List.setIfInBounds_toArray, List.set_cons_zero, List.set_cons_succ]
  refine tl_any 13 73 (.pointer (some ⟨pw, 0, none⟩)) rfl rfl (by kernel_rfl) (by kernel_rfl) (by kernel_rfl) (fun _ _ _ h => h) (by decide) (by rfl) (fun wS => by go_simp) (by assumption) ?_
  simp only [Act.put, List.setIfInBounds_toArray, List.set_cons_zero, List.set_cons_succ]
  refine tl_any 14 74 (.int .i64 1) rfl rfl (by kernel_rfl) (by kernel_rfl) (by kernel_rfl) (fun _ _ _ h => h) (by decide) (by rfl) (fun wS => by go_simp) (by assumption) ?_
  simp only [Act.put, List.setIfInBounds_toArray, List.set_cons_zero, List.set_cons_succ]
  refine tl_any 15 75 (.int .i64 0) rfl rfl (by kernel_rfl) (by kernel_rfl) (by kernel_rfl) (fun _ _ _ h => h) (by decide) (by rfl) (fun wS => by (first | (go_simp; done) | (go_simp; rfl) | (go_simp; decide) | rfl)) (by assumption) ?_
  simp only [Act.put, List.setIfInBounds_toArray, List.set_cons_zero, List.set_cons_succ]
  refine tl_any 16 76 (.pointer (some ⟨pw, 0, none⟩)) rfl rfl (by kernel_rfl) (by kernel_rfl) (by kernel_rfl) (fun _ _ _ h => h) (by decide) (by rfl) (fun wS => by go_simp) (by assumption) ?_
  simp only [Act.put, List.setIfInBounds_toArray, List.set_cons_zero, List.set_cons_succ]
  refine tl_any 17 77 (.pointer (some ⟨pw, 3, none⟩)) rfl rfl (by kernel_rfl) (by kernel_rfl) (by kernel_rfl) (fun _ _ _ h => h) (by decide) (by rfl) (fun wS => by go_simp) (by assumption) ?_
  simp only [Act.put, List.setIfInBounds_toArray, List.set_cons_zero, List.set_cons_succ]
  refine tl_any 18 78 (.pointer (some ⟨pw, 3, none⟩)) rfl rfl (by kernel_rfl) (by kernel_rfl) (by kernel_rfl) (fun _ _ _ h => h) (by decide) (by rfl) (fun wS => by (first | (go_simp; done) | (go_simp; rfl) | (go_simp; decide) | rfl)) (by assumption) ?_
  simp only [Act.put, List.setIfInBounds_toArray, List.set_cons_zero, List.set_cons_succ]
  refine tl_take 19 79 (.slice vb n1 vd) rfl rfl (by kernel_rfl) (by kernel_rfl) (by kernel_rfl) (fun _ _ _ h => h) (by decide) (by kernel_rfl) (by kernel_rfl) (by rfl) (fun wS hS => by (try dsimp only at hS); go_split_ands; go_simp) (by assumption) ?_
  simp only [Act.put, List.setIfInBounds_toArray, List.set_cons_zero, List.set_cons_succ]
  refine tl_any 21 81 (.pointer (some ⟨pw, 0, none⟩)) rfl rfl (by kernel_rfl) (by kernel_rfl) (by kernel_rfl) (fun _ _ _ h => h) (by decide) (by rfl) (fun wS => by go_simp) (by assumption) ?_
  simp only [Act.put, List.setIfInBounds_toArray, List.set_cons_zero, List.set_cons_succ]
  refine tl_any 22 82 (.pointer (some ⟨pw, 3, none⟩)) rfl rfl (by kernel_rfl) (by kernel_rfl) (by kernel_rfl) (fun _ _ _ h => h) (by decide) (by rfl) (fun wS => by go_simp) (by assumption) ?_
  simp only [Act.put, List.setIfInBounds_toArray, List.set_cons_zero, List.set_cons_succ]
  refine tl_any 25 84 (.pointer (some ⟨pw, 0, none⟩)) rfl rfl (by kernel_rfl) (by kernel_rfl) (by kernel_rfl) (fun _ _ _ h => h) (by decide) (by rfl) (fun wS => by go_simp) (by assumption) ?_
  simp only [Act.put, List.setIfInBounds_toArray, List.set_cons_zero, List.set_cons_succ]
  refine tl_any 26 85 (.pointer (some ⟨pw, 3, none⟩)) rfl rfl (by kernel_rfl) (by kernel_rfl) (by kernel_rfl) (fun _ _ _ h => h) (by decide) (by rfl) (fun wS => by go_simp) (by assumption) ?_
  simp only [Act.put, List.setIfInBounds_toArray, List.set_cons_zero, List.set_cons_succ]
  clear hHeld
  refine tl_ready (rs := [5]) (by kernel_rfl) (by simp) ?_
  refine AllT.cons rfl (fun K hK => ?_) AllT.nil
  go_simp
  go_wp2_with fail
  refine hK.out _ _ (fun _ => ⟨(((Kept.refl (fun _ => False) W).alloc _).cell (p := ⟨pw, 4, none⟩) hlW (fun e => e)).trans HH.out.1, (((Kept.refl (fun _ => False) W).alloc _).cell (p := ⟨pw, 3, none⟩) hlW (fun e => e)).trans HH.out.2⟩) ?_
  clear hK K
  refine tl_ready (rs := [12]) (by kernel_rfl) (by simp) ?_
  refine AllT.cons rfl (fun K hK => ?_) AllT.nil
  refine step_append_sz rfl (.tmp 65) (.tmp 71) rfl W.heap.size W.heap.size _ _ 0 [] L1 rfl rfl (by exact lit3 W (Nat.le_refl _)) (by exact S1.out.kept ((Kept.refl (fun _ => False) W).alloc _).plain0) (by have := HN0.out; omega) (by simp <;> omega) ?_
  intro v3 w3 o3 g3
  have K3 := hid (((Kept.refl (fun _ => False) W).alloc _).grown g3 (fun k hk => Or.inr (by cases hk; simp <;> omega)))
  have O3 := hid o3
  clear o3 g3
  go_wp2_with fail
  refine hK.out _ _ (fun _ => ⟨(K3.out.cell (p := ⟨pw, 4, none⟩) hlW (fun e => e)).trans HH.out.1, (K3.out.cell (p := ⟨pw, 3, none⟩) hlW (fun e => e)).trans HH.out.2⟩) ?_
  clear hK K
  refine tl_ready (rs := [20]) (by kernel_rfl) (by simp) ?_
  refine AllT.cons rfl (fun K hK => ?_) AllT.nil
  refine step_append_sz rfl (.tmp 72) (.tmp 79) rfl W.heap.size W.heap.size v3 _ (0 + L1.length) ([] ++ row h3 L1) L0 rfl rfl (by exact O3.out) (by exact S2.out.kept K3.out.plain0) (by have := HN0.out; have := HN1.out; omega) (by exact K3.out.size) ?_
  intro v4 w4 o4 g4
  have K4 := hid (K3.out.grown g4 (fun k hk => Or.inr (O3.out.lt k hk).1))
  have O4 := hid o4
  obtain ⟨va4, vc4, rfl⟩ := own_form o4
  clear o4 g4
  generalize hn4 : 0 + L1.length + L0.length = n4 at *
  have HN4 := hid hn4
  clear hn4
  go_wp2_with fail
  refine hK.out _ _ (fun _ => ⟨(K4.out.cell (p := ⟨pw, 4, none⟩) hlW (fun e => e)).trans HH.out.1, (K4.out.cell (p := ⟨pw, 3, none⟩) hlW (fun e => e)).trans HH.out.2⟩) ?_
  clear hK K
  have hHeld : w4.cell? ⟨pw, 4, none⟩ = some (.slice va n0 vc) ∧ w4.cell? ⟨pw, 3, none⟩ = some (.slice vb n1 vd) := ⟨(K4.out.cell (p := ⟨pw, 4, none⟩) hlW (fun e => e)).trans HH.out.1, (K4.out.cell (p := ⟨pw, 3, none⟩) hlW (fun e => e)).trans HH.out.2⟩
  refine tl_any 23 83 (.pointer (some ⟨pw, 4, none⟩)) rfl rfl (by kernel_rfl) (by kernel_rfl) (by kernel_rfl) (fun _ _ _ h => h) (by decide) (by rfl) (fun wS => by (first | (go_simp; done) | (go_simp; rfl) | (go_simp; decide) | rfl)) (by assumption) ?_
  simp only [Act.put, List.setIfInBounds_toArray]
  obtain ⟨c34, c44⟩ := hHeld
  have W4 := hid (WD.out.plain K4.out)
  have hl4 := W4.out.lt
  have f34 := W4.out.cells.2.2.2.2.2.2.2.2 3
  have f44 := W4.out.cells.2.2.2.2.2.2.2.2 4
  refine tl_ready (rs := [24]) (by kernel_rfl) (by simp) ?_
  refine AllT.cons rfl (fun K hK => ?_) AllT.nil
  go_simp
  refine hK.out _ _ (fun h => Bool.noConfusion (show true = false from h)) ?_
  clear hK K
  refine tl_ready (rs := [27]) (by kernel_rfl) (by simp) ?_
  refine AllT.cons rfl (fun K hK => ?_) AllT.nil
  go_simp
  refine hK.out _ _ (fun h => Bool.noConfusion (show true = false from h)) ?_
  clear hK K
  refine tl_ready (rs := [28]) (by kernel_rfl) (by simp) ?_
  refine AllT.cons rfl (fun K hK => ?_) AllT.nil
  go_simp
  refine hK.out _ _ (fun h => Bool.noConfusion (show true = false from h)) ?_
  clear hK K
  refine tl_done (by kernel_rfl) ?_ _
  refine NoPanic.normal ?_
  go_wp2
  go_ret
  have er : row h3 (L1 ++ L0) = [] ++ row h3 L1 ++ row h3 L0 := by rw [row_append]; simp
  have el : (L1 ++ L0).length = n4 := by rw [← HN4.out]; simp
  have LZ : Lz (fun b => ¬ F b ∧ b ≠ pw) w4 (.slice va4 n4 vc4) (L1 ++ L0) := Lz.of_own (base := W.heap.size) (by rw [er, el]; exact O4.out) (fun b hb _ => ⟨fun z => by have := WD.out.is.lt b z; omega, by omega⟩)
  have kk1 := (kept_pw w4 pw 4 (.slice va4 n4 vc4)).trans' (kept_pw _ pw 3 (.slice none 0 0))
  have W6 := W4.out.wrote (v0' := .slice none 0 0) (v1' := .slice va4 n4 vc4) (L0' := []) kk1 (by have b1 := blk_set (j := 3) (u := .slice none 0 0) (blk_set (j := 4) (u := .slice va4 n4 vc4) W4.out.blk); simp at b1; exact b1) (Lz.nil _ _) (LZ.kept kk1 fun _ q => q.2)
  rw [HRT.out] at W6
  exact ⟨rfl, F, pa, pm, _, _, _, lf, t', sp2, mo2, W6, HIN.out.swap, by have : s3.steps ≤ q + 6 + 18 * (u.rank + t.rank + 1) := ST.out; have := RK.out; have := RK2.out; have := HQ.out; have := HKK.out; omega, MO.out⟩
end Go.Proofs.Ytnkpopeahmjodaa

/- The walk of LeftistNumbers. -/
namespace Go.Proofs.Ytnkpopeahmjodaa
open Go.ChangeShapes Go.WideShapes Go.ChangeAt Go.RowKit
open Tr

theorem fall0S {w0 : Fm} {w : World} {pw N K : Nat} {L0 L1 : List (Nat × Int × Int)} {nx : Int} (at0 by0 : Int) (hat : I64 at0) (h : Sit w0 w pw N K L0 L1 nx) (hl : L0.length ≤ 700) (hl' : L1.length ≤ 700) (hK : K ≤ 90000000) :
    Calls Try.prog 9 #[.pointer (some ⟨pw, 0, none⟩), .int .i64 0, .int .i64 at0, .int .i64 by0] w fun e w' => e = .returned (.bool true) ∧ Sit w0 w' pw N (K + 2000) (fallL at0 by0 L0) L1 nx := by
  by_cases h0 : L0 = []
  · refine (fall0_none at0 by0 h h0).mono ?_
    rintro e w1 ⟨rfl, s1⟩
    subst h0
    exact ⟨rfl, by rw [fallL_nil]; exact s1.mono (by omega)⟩
  · exact fall0_some at0 by0 hat h h0 hl hl' hK
theorem fall1S {w0 : Fm} {w : World} {pw N K : Nat} {L0 L1 : List (Nat × Int × Int)} {nx : Int} (at0 by0 : Int) (hat : I64 at0) (h : Sit w0 w pw N K L0 L1 nx) (hl : L0.length ≤ 700) (hl' : L1.length ≤ 700) (hK : K ≤ 90000000) :
    Calls Try.prog 9 #[.pointer (some ⟨pw, 0, none⟩), .int .i64 1, .int .i64 at0, .int .i64 by0] w fun e w' => e = .returned (.bool true) ∧ Sit w0 w' pw N (K + 2000) L0 (fallL at0 by0 L1) nx := by
  by_cases h0 : L1 = []
  · refine (fall1_none at0 by0 h h0).mono ?_
    rintro e w1 ⟨rfl, s1⟩
    subst h0
    exact ⟨rfl, by rw [fallL_nil]; exact s1.mono (by omega)⟩
  · exact fall1_some at0 by0 hat h h0 hl hl' hK
theorem cut0S {w0 : Fm} {w : World} {pw N K : Nat} {L0 L1 : List (Nat × Int × Int)} {nx : Int} (at0 : Int) (hat : I64 at0) (h : Sit w0 w pw N K L0 L1 nx) (hl : L0.length ≤ 700) (hl' : L1.length ≤ 700) (hK : K ≤ 90000000) :
    Calls Try.prog 10 #[.pointer (some ⟨pw, 0, none⟩), .int .i64 0, .int .i64 at0] w fun e w' => e = .returned (.bool true) ∧ Sit w0 w' pw N (K + 2000) (cutL at0 L0) L1 nx := by
  by_cases h0 : L0 = []
  · refine (cut0_none at0 h h0).mono ?_
    rintro e w1 ⟨rfl, s1⟩
    subst h0
    exact ⟨rfl, by rw [cutL_nil]; exact s1.mono (by omega)⟩
  · exact cut0_some at0 hat h h0 hl hl' hK
theorem cut1S {w0 : Fm} {w : World} {pw N K : Nat} {L0 L1 : List (Nat × Int × Int)} {nx : Int} (at0 : Int) (hat : I64 at0) (h : Sit w0 w pw N K L0 L1 nx) (hl : L0.length ≤ 700) (hl' : L1.length ≤ 700) (hK : K ≤ 90000000) :
    Calls Try.prog 10 #[.pointer (some ⟨pw, 0, none⟩), .int .i64 1, .int .i64 at0] w fun e w' => e = .returned (.bool true) ∧ Sit w0 w' pw N (K + 2000) L0 (cutL at0 L1) nx := by
  by_cases h0 : L1 = []
  · refine (cut1_none at0 h h0).mono ?_
    rintro e w1 ⟨rfl, s1⟩
    subst h0
    exact ⟨rfl, by rw [cutL_nil]; exact s1.mono (by omega)⟩
  · exact cut1_some at0 hat h h0 hl hl' hK
theorem i64_small (n : Int) (h : -1000000 ≤ n ∧ n ≤ 1000000) : I64 n := ⟨by omega, by omega⟩
theorem cutL_len' (n : Int) {L : List (Nat × Int × Int)} {k : Nat} (h : L.length = k + 1) : (cutL n L).length = k := by
  rw [cutL_len n (fun z => by rw [z] at h; simp at h)]; omega
theorem popL_len' {L : List (Nat × Int × Int)} {k : Nat} (h : L.length = k) : (popL L).length = k - 1 := by
  by_cases z : L = []
  · subst z; simp at h; subst h; rfl
  · rw [popL_len z]; omega

set_option maxHeartbeats 4000000 in
set_option maxRecDepth 100000 in
theorem numbers_walk (W : World) : Calls Try.prog 3 #[] W fun e w' => e = .returned (.bool true) ∧ Below W.heap.size W w' := by
  go_enter Try.func3, Try.ntmps3
  go_wp2_with fail
  go_loopw [1, 2, 3, 4] (fun hv _ _ _ wr => ∃ a : Nat, hv = .int .i64 a ∧ a ≤ 4 ∧ Below W.heap.size W wr) (fun a _ _ _ _ => 4 - (intOf a).toNat)
  case atStart => exact ⟨0, rfl, by omega, Below.refl _ _⟩
  case round =>
    obtain ⟨a, rfl, ha, hB⟩ := hrel
    have HB := hid hB
    clear hB
    by_cases q : a < 4
    · have q' : (a : Int) < 4 := by omega
      obtain ⟨w5, rfl⟩ : ∃ w5, w5 = wr := ⟨wr, rfl⟩
      go_wp2_with fail
      refine (freshW 200 w5).mono ?_
      rintro e w1 ⟨pw, rfl, s1⟩
      rw [show most0 200 = 200 from rfl] at s1
      have S1 := hid s1
      clear s1
      go_wp2_with fail
      go_loopw [3] (fun bv wr => ∃ (b : Nat) (L0 L1 : List (Nat × Int × Int)), bv = .int .i64 b ∧ b ≤ 40 ∧ L0.length = (b + 1) / 2 ∧ L1.length = b / 2 ∧ Sit (Fm.of w5) wr pw 200 (32000 * b) L0 L1 (b : Int)) (fun b _ => 40 - (intOf b).toNat)
      case atStart => exact ⟨0, [], [], rfl, by omega, rfl, rfl, S1.out⟩
      case round =>
        clear S1
        obtain ⟨b, L0, L1, rfl, hb, h0, h1, hs⟩ := hrel
        have S := hid hs
        have H0 := hid h0
        have H1 := hid h1
        have hl0 : L0.length ≤ 20 := by omega
        have hl1 : L1.length ≤ 20 := by omega
        clear hs h0 h1
        by_cases z : b < 40
        · have z' : (b : Int) < 40 := by omega
          have hw1 : IntKind.i64.wrap (-(b : Int)) = -(b : Int) := IntWalk.i64_in _ (by omega)
          have hw2 : IntKind.i64.wrap ((b : Int) * 17) = (b : Int) * 17 := IntWalk.i64_in _ (by omega)
          obtain ⟨key, hkey⟩ : ∃ key : Int, (#[Value.int .i64 (b : Int), Value.int .i64 (-(b : Int)), Value.int .i64 5, Value.int .i64 ((b : Int) * 17 % 40)] : Array Value)[a]? = some (.int .i64 key) := by
            have hz4 : a = 0 ∨ a = 1 ∨ a = 2 ∨ a = 3 := by omega
            rcases hz4 with rfl | rfl | rfl | rfl
            · exact ⟨_, rfl⟩
            · exact ⟨_, rfl⟩
            · exact ⟨_, rfl⟩
            · exact ⟨_, rfl⟩
          have hload : (wr.alloc (.cells #[Value.int .i64 (b : Int), Value.int .i64 (-(b : Int)), Value.int .i64 5, Value.int .i64 ((b : Int) * 17 % 40)] 2)).cell? ⟨wr.heap.size, a, none⟩ = some (.int .i64 key) := blk_cell (heap_alloc_new wr _) hkey
          clear hkey
          have RS := hid (fun (wx : World) (M0 M1 : List (Nat × Int × Int)) (s : Sit (Fm.of w5) wx pw 200 (32000 * b + 1500) M0 M1 ((b : Int) + 1)) (l0 : M0.length ≤ 21) (l1 : M1.length ≤ 21) => rightS s (by omega) (by omega) (by omega))
          by_cases par : b % 2 = 0
          · have hp : (b : Int) % 2 = 0 := by omega
            have hp2 : (b : Int).tmod 2 = 0 := by rw [Int.tmod_eq_emod_of_nonneg (by omega)]; exact hp
            have PU := hid (fun (o : Obj) (key : Int) => push0 (S.out.plain ((Kept.refl _ _).alloc o)) (by omega) (by omega) ⟨by omega, by omega⟩ (by omega) key)
            have HL := hid (show L0.length + 1 = (b + 1 + 1) / 2 ∧ L1.length = (b + 1) / 2 by rw [H0.out, H1.out]; omega)
            clear S H0 H1 par
            all_goals
              go_wp2_with fail
              refine (PU.out _ _).mono ?_
              rintro e w6 ⟨rfl, j, s6⟩
              have S6 := hid s6
              clear s6
              go_wp2_with fail
              refine (RS.out _ _ _ S6.out (by simp; omega) (by omega)).mono ?_
              rintro e w7 ⟨rfl, s7⟩
              have S7 := hid s7
              clear s7 S6
              go_wp2
              go_roundw
              case rel => exact ⟨b + 1, L0 ++ [(j, key, (b : Int))], L1, by go_num, by omega, by rw [List.length_append]; exact HL.out.1, HL.out.2, by have := S7.out.mono (show 32000 * b + 1500 + 30000 ≤ 32000 * (b + 1) by omega); exact this⟩
              case measure => simp [intOf]; omega
          · have hp : (b : Int) % 2 = 1 := by omega
            have hp2 : (b : Int).tmod 2 = 1 := by rw [Int.tmod_eq_emod_of_nonneg (by omega)]; exact hp
            have PU := hid (fun (o : Obj) (key : Int) => push1 (S.out.plain ((Kept.refl _ _).alloc o)) (by omega) (by omega) ⟨by omega, by omega⟩ (by omega) key)
            have HL := hid (show L0.length = (b + 1 + 1) / 2 ∧ L1.length + 1 = (b + 1) / 2 by rw [H0.out, H1.out]; omega)
            clear S H0 H1 par
            all_goals
              go_wp2_with fail
              refine (PU.out _ _).mono ?_
              rintro e w6 ⟨rfl, j, s6⟩
              have S6 := hid s6
              clear s6
              go_wp2_with fail
              refine (RS.out _ _ _ S6.out (by omega) (by simp; omega)).mono ?_
              rintro e w7 ⟨rfl, s7⟩
              have S7 := hid s7
              clear s7 S6
              go_wp2
              go_roundw
              case rel => exact ⟨b + 1, L0, L1 ++ [(j, key, (b : Int))], by go_num, by omega, HL.out.1, by rw [List.length_append]; exact HL.out.2, by have := S7.out.mono (show 32000 * b + 1500 + 30000 ≤ 32000 * (b + 1) by omega); exact this⟩
              case measure => simp [intOf]; omega
        · have z' : decide ((b : Int) < 40) = false := by simp; omega
          have hL0 : L0.length = 20 := by rw [H0.out]; omega
          have hL1 : L1.length = 20 := by rw [H1.out]; omega
          have S0 := hid (S.out.mono (show 32000 * b ≤ 1300000 by omega))
          obtain ⟨nx, hnx⟩ : ∃ nx : Int, nx = (b : Int) := ⟨_, rfl⟩
          rw [← hnx] at S0
          clear hnx
          clear S H0 H1 hl0 hl1
          by_cases par : a % 2 = 0
          · have hp2 : (a : Int).tmod 2 = 0 := by rw [Int.tmod_eq_emod_of_nonneg (by omega)]; omega
            have hF := hid (show (fallL 7 (-100) L0).length = 20 by rw [fallL_len]; exact hL0)
            have hC := hid (show (cutL 9 L1).length = 19 from cutL_len' 9 hL1)
            have C1 := hid (fall0S 7 (-100) (i64_small _ (by decide)) S0.out (by omega) (by omega) (by omega))
            go_wp2_with fail
            refine C1.out.mono ?_
            rintro e w11 ⟨rfl, s1⟩
            have S1 := hid s1
            clear s1 C1 S0
            generalize fallL 7 (-100) L0 = A at *
            have C2 := hid (rightS S1.out (by have := hF.out; omega) (by omega) (by omega))
            go_wp2_with fail
            refine C2.out.mono ?_
            rintro e w12 ⟨rfl, s2⟩
            have S2 := hid s2
            clear s2 C2 S1
            have C3 := hid (cut1S 9 (i64_small _ (by decide)) S2.out (by have := hF.out; omega) (by omega) (by omega))
            go_wp2_with fail
            refine C3.out.mono ?_
            rintro e w13 ⟨rfl, s3⟩
            have S3 := hid s3
            clear s3 C3 S2
            generalize cutL 9 L1 = B at *
            have C4 := hid (rightS S3.out (by have := hF.out; omega) (by have := hC.out; omega) (by omega))
            go_wp2_with fail
            refine C4.out.mono ?_
            rintro e w14 ⟨rfl, s4⟩
            have S4 := hid s4
            clear s4 C4 S3
            have C5 := hid (meld0 S4.out (by have := hF.out; have := hC.out; omega) (by omega))
            go_wp2_with fail
            refine C5.out.mono ?_
            rintro e w15 ⟨rfl, s5⟩
            have S5 := hid s5
            clear s5 C5 S4
            have hD := hid (show (A ++ B).length = 39 by rw [List.length_append, hF.out, hC.out])
            generalize A ++ B = D at *
            have C6 := hid (rightS S5.out (by have := hD.out; omega) (by simp) (by omega))
            go_wp2_with fail
            refine C6.out.mono ?_
            rintro e w16 ⟨rfl, s6⟩
            have S6 := hid s6
            clear s6 C6 S5
            have C7 := hid (cut0S 20 (i64_small _ (by decide)) S6.out (by have := hD.out; omega) (by simp) (by omega))
            go_wp2_with fail
            refine C7.out.mono ?_
            rintro e w17 ⟨rfl, s7⟩
            have S7 := hid s7
            clear s7 C7 S6
            have hE := hid (show (cutL 20 D).length = 38 from cutL_len' 20 hD.out)
            generalize cutL 20 D = E at *
            have C8 := hid (fall0S 11 0 (i64_small _ (by decide)) S7.out (by have := hE.out; omega) (by simp) (by omega))
            go_wp2_with fail
            refine C8.out.mono ?_
            rintro e w18 ⟨rfl, s8⟩
            have S8 := hid s8
            clear s8 C8 S7
            have hG := hid (show (fallL 11 0 E).length = 38 by rw [fallL_len]; exact hE.out)
            generalize fallL 11 0 E = G at *
            have C9 := hid (rightS S8.out (by have := hG.out; omega) (by simp) (by omega))
            go_wp2_with fail
            refine C9.out.mono ?_
            rintro e w19 ⟨rfl, s9⟩
            have S9 := hid s9
            clear s9 C9 S8
            go_wp2_with fail
            go_loopw [4] (fun cv wr => ∃ (c : Nat) (M : List (Nat × Int × Int)), cv = .int .i64 c ∧ c ≤ 40 ∧ M.length = 38 - c ∧ Sit (Fm.of w5) wr pw 200 (2000000 + 32000 * c) M [] nx) (fun c _ => 40 - (intOf c).toNat)
            case atStart => exact ⟨0, G, rfl, by omega, hG.out, S9.out.mono (by omega)⟩
            case round =>
              clear S9 hG hE hD hF hC
              obtain ⟨c, M, rfl, hc, hM, hs⟩ := hrel
              have S := hid hs
              have HM := hid hM
              by_cases y : c < 40
              · have y' : (c : Int) < 40 := by omega
                have hl : M.length ≤ 38 := by omega
                have hpl := hid (show (popL M).length = 38 - (c + 1) by rw [popL_len' hM]; omega)
                have hpl2 := hid (popL_le M)
                clear hs hM
                have C10 := hid (pop0S S.out (by omega) (by omega))
                go_wp2_with fail
                refine C10.out.mono ?_
                rintro e w20 ⟨rfl, s10⟩
                have S10 := hid s10
                clear s10 C10 S
                have C11 := hid (rightS S10.out (by have := hpl2.out; omega) (by simp) (by omega))
                go_wp2_with fail
                refine C11.out.mono ?_
                rintro e w21 ⟨rfl, s11⟩
                have S11 := hid s11
                clear s11 C11 S10
                go_wp2
                go_roundw
                case rel => exact ⟨c + 1, popL M, by go_num, by omega, hpl.out, S11.out.mono (by omega)⟩
                case measure => simp [intOf]; omega
              · have y' : decide ((c : Int) < 40) = false := by simp; omega
                obtain rfl : M = [] := List.eq_nil_of_length_eq_zero (by omega)
                clear hs hM HM
                have C12 := hid (drop0_none S.out (by omega))
                go_wp2_with fail
                refine C12.out.mono ?_
                rintro e w22 ⟨rfl, s12⟩
                have S12 := hid s12
                clear s12 C12 S
                have C13 := hid (drop1_none S12.out (by omega))
                go_wp2_with fail
                refine C13.out.mono ?_
                rintro e w23 ⟨rfl, s13⟩
                have S13 := hid s13
                clear s13 C13 S12
                obtain ⟨pa, hl0, c0, ln⟩ := S13.out.len
                have LN := hid ln
                have B13 := hid (HB.out.trans (S13.out.bel.mono HB.out.size))
                clear ln S13
                go_wp2_with fail
                refine (LN.out _ (Kept.refl _ _)).mono ?_
                rintro e w24 ⟨rfl, m, rfl⟩
                simp only [List.length_nil, Nat.add_zero, Nat.mul_zero]
                go_wp2
                go_roundw
                case rel => exact ⟨a + 1, by go_num, by omega, below_drewN B13.out m⟩
                case measure => simp [intOf]; omega
          · have hp2 : (a : Int).tmod 2 = 1 := by rw [Int.tmod_eq_emod_of_nonneg (by omega)]; omega
            have hF := hid (show (fallL 7 (-100) L0).length = 20 by rw [fallL_len]; exact hL0)
            have hC := hid (show (cutL 9 L1).length = 19 from cutL_len' 9 hL1)
            have C1 := hid (fall0S 7 (-100) (i64_small _ (by decide)) S0.out (by omega) (by omega) (by omega))
            go_wp2_with fail
            refine C1.out.mono ?_
            rintro e w11 ⟨rfl, s1⟩
            have S1 := hid s1
            clear s1 C1 S0
            generalize fallL 7 (-100) L0 = A at *
            have C2 := hid (rightS S1.out (by have := hF.out; omega) (by omega) (by omega))
            go_wp2_with fail
            refine C2.out.mono ?_
            rintro e w12 ⟨rfl, s2⟩
            have S2 := hid s2
            clear s2 C2 S1
            have C3 := hid (cut1S 9 (i64_small _ (by decide)) S2.out (by have := hF.out; omega) (by omega) (by omega))
            go_wp2_with fail
            refine C3.out.mono ?_
            rintro e w13 ⟨rfl, s3⟩
            have S3 := hid s3
            clear s3 C3 S2
            generalize cutL 9 L1 = B at *
            have C4 := hid (rightS S3.out (by have := hF.out; omega) (by have := hC.out; omega) (by omega))
            go_wp2_with fail
            refine C4.out.mono ?_
            rintro e w14 ⟨rfl, s4⟩
            have S4 := hid s4
            clear s4 C4 S3
            have C5 := hid (meld1 S4.out (by have := hF.out; have := hC.out; omega) (by omega))
            go_wp2_with fail
            refine C5.out.mono ?_
            rintro e w15 ⟨rfl, s5⟩
            have S5 := hid s5
            clear s5 C5 S4
            have hD := hid (show (B ++ A).length = 39 by rw [List.length_append, hF.out, hC.out])
            generalize B ++ A = D at *
            have C6 := hid (rightS S5.out (by simp) (by have := hD.out; omega) (by omega))
            go_wp2_with fail
            refine C6.out.mono ?_
            rintro e w16 ⟨rfl, s6⟩
            have S6 := hid s6
            clear s6 C6 S5
            have C7 := hid (cut1S 20 (i64_small _ (by decide)) S6.out (by simp) (by have := hD.out; omega) (by omega))
            go_wp2_with fail
            refine C7.out.mono ?_
            rintro e w17 ⟨rfl, s7⟩
            have S7 := hid s7
            clear s7 C7 S6
            have hE := hid (show (cutL 20 D).length = 38 from cutL_len' 20 hD.out)
            generalize cutL 20 D = E at *
            have C8 := hid (fall1S 11 0 (i64_small _ (by decide)) S7.out (by simp) (by have := hE.out; omega) (by omega))
            go_wp2_with fail
            refine C8.out.mono ?_
            rintro e w18 ⟨rfl, s8⟩
            have S8 := hid s8
            clear s8 C8 S7
            have hG := hid (show (fallL 11 0 E).length = 38 by rw [fallL_len]; exact hE.out)
            generalize fallL 11 0 E = G at *
            have C9 := hid (rightS S8.out (by simp) (by have := hG.out; omega) (by omega))
            go_wp2_with fail
            refine C9.out.mono ?_
            rintro e w19 ⟨rfl, s9⟩
            have S9 := hid s9
            clear s9 C9 S8
            go_wp2_with fail
            go_loopw [4] (fun cv wr => ∃ (c : Nat) (M : List (Nat × Int × Int)), cv = .int .i64 c ∧ c ≤ 40 ∧ M.length = 38 - c ∧ Sit (Fm.of w5) wr pw 200 (2000000 + 32000 * c) [] M nx) (fun c _ => 40 - (intOf c).toNat)
            case atStart => exact ⟨0, G, rfl, by omega, hG.out, S9.out.mono (by omega)⟩
            case round =>
              clear S9 hG hE hD hF hC
              obtain ⟨c, M, rfl, hc, hM, hs⟩ := hrel
              have S := hid hs
              have HM := hid hM
              by_cases y : c < 40
              · have y' : (c : Int) < 40 := by omega
                have hl : M.length ≤ 38 := by omega
                have hpl := hid (show (popL M).length = 38 - (c + 1) by rw [popL_len' hM]; omega)
                have hpl2 := hid (popL_le M)
                clear hs hM
                have C10 := hid (pop1S S.out (by omega) (by omega))
                go_wp2_with fail
                refine C10.out.mono ?_
                rintro e w20 ⟨rfl, s10⟩
                have S10 := hid s10
                clear s10 C10 S
                have C11 := hid (rightS S10.out (by simp) (by have := hpl2.out; omega) (by omega))
                go_wp2_with fail
                refine C11.out.mono ?_
                rintro e w21 ⟨rfl, s11⟩
                have S11 := hid s11
                clear s11 C11 S10
                go_wp2
                go_roundw
                case rel => exact ⟨c + 1, popL M, by go_num, by omega, hpl.out, S11.out.mono (by omega)⟩
                case measure => simp [intOf]; omega
              · have y' : decide ((c : Int) < 40) = false := by simp; omega
                obtain rfl : M = [] := List.eq_nil_of_length_eq_zero (by omega)
                clear hs hM HM
                have C12 := hid (drop0_none S.out (by omega))
                go_wp2_with fail
                refine C12.out.mono ?_
                rintro e w22 ⟨rfl, s12⟩
                have S12 := hid s12
                clear s12 C12 S
                have C13 := hid (drop1_none S12.out (by omega))
                go_wp2_with fail
                refine C13.out.mono ?_
                rintro e w23 ⟨rfl, s13⟩
                have S13 := hid s13
                clear s13 C13 S12
                obtain ⟨pa, hl0, c0, ln⟩ := S13.out.len
                have LN := hid ln
                have B13 := hid (HB.out.trans (S13.out.bel.mono HB.out.size))
                clear ln S13
                go_wp2_with fail
                refine (LN.out _ (Kept.refl _ _)).mono ?_
                rintro e w24 ⟨rfl, m, rfl⟩
                simp only [List.length_nil, Nat.add_zero, Nat.mul_zero]
                go_wp2
                go_roundw
                case rel => exact ⟨a + 1, by go_num, by omega, below_drewN B13.out m⟩
                case measure => simp [intOf]; omega
    · have q' : decide ((a : Int) < 4) = false := by simp; omega
      go_wp2_with fail
      refine (known_any _).mono ?_
      rintro e w9 ⟨rfl, b9⟩
      have B9 := hid (HB.out.trans (b9.mono HB.out.size))
      go_wp2
      go_ret
      exact ⟨rfl, B9.out⟩
end Go.Proofs.Ytnkpopeahmjodaa
