/- Drop of nothing; the laws' drop of a heap of nothing. -/
import Derived.Test.YthfdooigljkfiaaGreatCe
import Derived.Test.YthfdooigljkfiaaGreatGj
import Derived.Test.YthfdooigljkfiaaGreatGl
import Derived.Test.YthfdooigljkfiaaGreatGg
namespace Go.Proofs.YthfdooigljkfiaaGreat
open Go.ChangeShapes Go.WideShapes Go.ChangeAt Go.RowKit
open Tr

theorem own_lower {w : World} {base base' : Nat} {e : TypeId} {size : Nat} {v : Value} {n : Nat} {xs : List Value} (h : w.ownsRow base e size v n xs) (hb : base' ≤ base) : w.ownsRow base' e size v n xs :=
  ⟨h.1, h.2.imp id fun ⟨g, cap, cur, e1, e2, e3⟩ => ⟨g, cap, cur, e1, Nat.le_trans hb e2, e3⟩⟩
set_option maxHeartbeats 1000000 in
theorem ndropT_none {F : Nat → Prop} {w : World} {pa pm base : Nat} {s : St} {a0 : Option Addr} {c0 : Nat} (h : IsA w F pa pm s) (hv : w.ownsRow base 3 1 (.slice a0 0 c0) 0 []) (hF : ∀ b, (Value.slice a0 0 c0).ownBlock = some b → ¬ F b) (hs : s.steps ≤ 90000000) :
    Calls Tryz.prog 60 #[.pointer (some ⟨pa, 0, none⟩), .slice a0 0 c0] w fun e w' => ∃ v', e = .returned v' ∧ w'.ownsRow w.heap.size 3 1 v' 0 [] ∧ Ex F w w' pa pm s := by
  have I := hid (itemsT (L := []) (base := base) h hv hF (fun n hn => by cases hn) (by simp) hs)
  clear h hv hF
  go_enter Tryz.func60, Tryz.ntmps60
  go_wp2_with fail
  refine I.out.mono ?_
  rintro e w1 ⟨v', m, rfl, o1, hp, _, e1⟩
  obtain rfl : m = [] := by have := hp.length_eq; simp at this; exact this
  have O1 := hid o1
  have E1 := hid e1
  obtain ⟨va, vc, rfl⟩ := own_form o1
  clear I o1 hp e1
  go_wp2_with fail
  go_loopw [7, 13] (fun _ iv wr => iv = .int .i64 0 ∧ wr = w1) (fun _ _ _ => 0)
  case atStart => exact ⟨rfl, rfl⟩
  case round =>
    obtain ⟨rfl, rfl⟩ := hrel
    go_wp2
    go_ret
    exact ⟨_, rfl, O1.out, E1.out⟩
set_option maxHeartbeats 1000000 in
theorem dropT_none {F : Nat → Prop} {w : World} {pa pm : Nat} {s : St} (h : IsA w F pa pm s) (hf : Hpp s lf) (ok : Ok s) (hs : s.steps ≤ 80000000) :
    Calls Tryz.prog 41 #[.pointer (some ⟨pa, 0, none⟩), .int .i64 (-1)] w fun e w' => ∃ v', e = .returned v' ∧ w'.ownsRow w.heap.size 3 1 v' 0 [] ∧ ∃ k, k ≤ 3 ∧ Ex F w w' pa pm (tk s k) := by
  have N := hid (pnodesT (t := lf) hf (by simp [size]) ok h (by omega))
  have FL := hid h.lt
  rw [show lf.root = -1 from rfl] at N
  clear h hf ok
  go_enter Tryz.func41, Tryz.ntmps41
  go_wp2_with fail
  refine N.out.mono ?_
  rintro e w1 ⟨v, P, k, rfl, o1, p1, hk, a1⟩
  obtain rfl : P = [] := by have := p1.length_eq; simpa [nodes] using this
  have hk3 : k ≤ 3 := by simpa [size] using hk
  have o1 : w1.ownsRow w.heap.size 3 1 v 0 [] := o1
  obtain ⟨va, vc, rfl⟩ := own_form o1
  have D := hid (ndropT_none (base := w.heap.size) a1.is o1 (fun b hb q => by have := FL.out b q; have := (World.ownsRow.lt o1 b hb).1; omega) (by show s.steps + k ≤ _; omega))
  have E1 := hid a1
  clear N o1 p1 hk a1
  go_wp2_with fail
  refine D.out.mono ?_
  rintro e w2 ⟨v', rfl, o2, e2⟩
  have O2 := hid o2
  have E2 := hid e2
  obtain ⟨va, vc, rfl⟩ := own_form o2
  clear o2 e2 D
  go_wp2
  go_ret
  exact ⟨_, rfl, own_lower O2.out E1.out.kept.size, k, hk3, E1.out.stay E2.out.is E2.out.kept⟩

set_option maxHeartbeats 2000000 in
set_option maxRecDepth 100000 in
theorem drop0_none {w0 : Fm} {w : World} {pw N K : Nat} {L : List (Nat × Int × Int)} {nx : Int} (h : Sit w0 w pw N K [] L nx) (hK : K ≤ 70000000) :
    Calls Tryz.prog 14 #[.pointer (some ⟨pw, 0, none⟩), .int .i64 0] w fun e w' => e = .returned (.bool true) ∧ Sit w0 w' pw N (K + 10) [] L nx := by
  have hr := h.none0
  obtain ⟨F, pa, pm, v0, v1, s, t, u, sp, mo, hw, hi, hk, hm⟩ := h
  have HW := hid hw
  have HI := hid hi
  have HK := hid hk
  have HM := hid hm
  have hfh : Hpp s lf := Hpp.nil s
  have hroot : headr t = -1 := by rw [hi.a.none.2 rfl]; rfl
  have HR := hid hroot
  have D := hid (fun w1 (k1 : Kept (fun _ => False) w w1) => dropT_none (hw.plain k1).is hfh hi.ok (by omega))
  obtain ⟨c0, c1, c2, c3, c4, c5, c6, c7, cf⟩ := hw.cells
  have hlt := hw.lt
  have hout := hid hw.out
  clear hw hi hk hm hroot hfh c1 c2 c3 c4 c5 c6 c7 cf
  go_enter Tryz.func14, Tryz.ntmps14
  go_wp2_with fail
  go_region_held3 (fun w' => w'.cell? ⟨pw, 0, none⟩ = some (.pointer (some ⟨pa, 0, none⟩)) ∧ w'.cell? ⟨pw, 1, none⟩ = some (.int .i64 (-1))) (first | exact ⟨c0, hr⟩ | (simp [go_sem]; exact ⟨c0, hr⟩))
    (first
      | (go_at_call 41; refine (D.out _ (by first | exact Kept.refl _ _ | exact (Kept.refl _ _).drew | exact (Kept.refl _ _).drewN _)).mono ?_; rintro e w3 ⟨v', rfl, o3, k, hk, e3⟩; replace c0 := (e3.kept.cell (p := ⟨pw, 0, none⟩) hlt hout.out).trans c0; replace hr := (e3.kept.cell (p := ⟨pw, 1, none⟩) hlt hout.out).trans hr; have E3 := hid e3; have O3 := hid (own_lower o3 (Nat.zero_le _)); obtain ⟨va, vc, rfl⟩ := own_form o3; clear e3 o3))
  have W3 := hid (HW.out.plain ((Kept.refl _ _).drewN 1) |>.ex E3.out)
  clear c0 hr hlt hout HW D E3
  obtain ⟨c0, c1, c2, c3, c4, c5, c6, c7, cf⟩ := W3.out.cells
  obtain ⟨xa, xc, hx⟩ := W3.out.l0.form
  have CE := hid (cellsH _ _ w3 W3.out.l0 (by simp))
  have hlt3 := W3.out.lt
  subst hx
  clear c0 c1 c2 c5 c6 c7 cf
  go_wp2_with fail
  refine CE.out.mono ?_
  rintro e w4 ⟨v4, m, rfl, o4, hp, _, k4⟩
  obtain rfl : m = [] := by have := hp.length_eq; simp at this; exact this
  have SM := hid (sameN (.slice va 0 vc) v4 [] [] rfl (by simp) w4 (own_kept O3.out k4 (fun _ _ e => e)) (own_base o4 (Nat.zero_le _)))
  have W4 := hid (W3.out.plain k4)
  obtain ⟨vb, vd, rfl⟩ := own_form o4
  clear CE o4 hp k4 W3 c3 c4 hlt3 O3
  go_wp2_with fail
  refine SM.out.mono ?_
  rintro e w5 ⟨rfl, nn, rfl⟩
  have W5 := hid (W4.out.drewN nn)
  clear SM W4
  generalize w4.drewN nn = w5 at *
  go_wp2_with fail
  go_loopw [6] (fun iv wr => iv = .int .i64 0 ∧ wr = w5) (fun _ _ => 0)
  case atStart => exact ⟨rfl, rfl⟩
  case round =>
    obtain ⟨rfl, rfl⟩ := hrel
    obtain ⟨c0, c1, c2, c3, c4, c5, c6, c7, cf⟩ := W5.out.cells
    have hlt5 := W5.out.lt
    have fR := cf 1
    have fV := cf 3
    clear c0 c5 c6 c7 cf
    go_wp2_with fail
    go_region
    go_wp2
    go_ret
    have kk := ((kept_pw wr pw 1 (.int .i64 (-1))).trans' (kept_pw _ pw 3 (.slice none 0 0))).drew
    have W6 := W5.out.wrote (r0' := headr t) (v0' := .slice none 0 0) (L0' := []) kk (by have b1 := blk_set (j := 3) (u := .slice none 0 0) (blk_set (j := 1) (u := .int .i64 (-1)) W5.out.blk); simp at b1; rw [show headr t = -1 from HR.out]; exact b1) (Lz.nil _ _) (W5.out.l1.kept kk fun _ q => q.2)
    exact ⟨rfl, F, pa, pm, _, _, tk s k, t, u, sp, mo, W6, HI.out.tk k, by show s.steps + k + pot s t u ≤ _ ∧ sp + pot s t u ≤ _ ∧ _; have := HK.out; omega, HM.out⟩

set_option maxHeartbeats 2000000 in
set_option maxRecDepth 100000 in
theorem drop1_none {w0 : Fm} {w : World} {pw N K : Nat} {L : List (Nat × Int × Int)} {nx : Int} (h : Sit w0 w pw N K L [] nx) (hK : K ≤ 70000000) :
    Calls Tryz.prog 14 #[.pointer (some ⟨pw, 0, none⟩), .int .i64 1] w fun e w' => e = .returned (.bool true) ∧ Sit w0 w' pw N (K + 10) L [] nx := by
  have hr := h.none1
  obtain ⟨F, pa, pm, v0, v1, s, t, u, sp, mo, hw, hi, hk, hm⟩ := h
  have HW := hid hw
  have HI := hid hi
  have HK := hid hk
  have HM := hid hm
  have hfh : Hpp s lf := Hpp.nil s
  have hroot : headr u = -1 := by rw [hi.b.none.2 rfl]; rfl
  have HR := hid hroot
  have D := hid (fun w1 (k1 : Kept (fun _ => False) w w1) => dropT_none (hw.plain k1).is hfh hi.ok (by omega))
  obtain ⟨c0, c1, c2, c3, c4, c5, c6, c7, cf⟩ := hw.cells
  have hlt := hw.lt
  have hout := hid hw.out
  clear hw hi hk hm hroot hfh c1 c2 c3 c4 c5 c6 c7 cf
  go_enter Tryz.func14, Tryz.ntmps14
  go_wp2_with fail
  go_region_held3 (fun w' => w'.cell? ⟨pw, 0, none⟩ = some (.pointer (some ⟨pa, 0, none⟩)) ∧ w'.cell? ⟨pw, 2, none⟩ = some (.int .i64 (-1))) (first | exact ⟨c0, hr⟩ | (simp [go_sem]; exact ⟨c0, hr⟩))
    (first
      | (go_at_call 41; refine (D.out _ (by first | exact Kept.refl _ _ | exact (Kept.refl _ _).drew | exact (Kept.refl _ _).drewN _)).mono ?_; rintro e w3 ⟨v', rfl, o3, k, hk, e3⟩; replace c0 := (e3.kept.cell (p := ⟨pw, 0, none⟩) hlt hout.out).trans c0; replace hr := (e3.kept.cell (p := ⟨pw, 2, none⟩) hlt hout.out).trans hr; have E3 := hid e3; have O3 := hid (own_lower o3 (Nat.zero_le _)); obtain ⟨va, vc, rfl⟩ := own_form o3; clear e3 o3))
  have W3 := hid (HW.out.plain ((Kept.refl _ _).drewN 1) |>.ex E3.out)
  clear c0 hr hlt hout HW D E3
  obtain ⟨c0, c1, c2, c3, c4, c5, c6, c7, cf⟩ := W3.out.cells
  obtain ⟨xa, xc, hx⟩ := W3.out.l1.form
  have CE := hid (cellsH _ _ w3 W3.out.l1 (by simp))
  have hlt3 := W3.out.lt
  subst hx
  clear c0 c1 c2 c5 c6 c7 cf
  go_wp2_with fail
  refine CE.out.mono ?_
  rintro e w4 ⟨v4, m, rfl, o4, hp, _, k4⟩
  obtain rfl : m = [] := by have := hp.length_eq; simp at this; exact this
  have SM := hid (sameN (.slice va 0 vc) v4 [] [] rfl (by simp) w4 (own_kept O3.out k4 (fun _ _ e => e)) (own_base o4 (Nat.zero_le _)))
  have W4 := hid (W3.out.plain k4)
  obtain ⟨vb, vd, rfl⟩ := own_form o4
  clear CE o4 hp k4 W3 c3 c4 hlt3 O3
  go_wp2_with fail
  refine SM.out.mono ?_
  rintro e w5 ⟨rfl, nn, rfl⟩
  have W5 := hid (W4.out.drewN nn)
  clear SM W4
  generalize w4.drewN nn = w5 at *
  go_wp2_with fail
  go_loopw [6] (fun iv wr => iv = .int .i64 0 ∧ wr = w5) (fun _ _ => 0)
  case atStart => exact ⟨rfl, rfl⟩
  case round =>
    obtain ⟨rfl, rfl⟩ := hrel
    obtain ⟨c0, c1, c2, c3, c4, c5, c6, c7, cf⟩ := W5.out.cells
    have hlt5 := W5.out.lt
    have fR := cf 2
    have fV := cf 4
    clear c0 c5 c6 c7 cf
    go_wp2_with fail
    go_region
    go_wp2
    go_ret
    have kk := ((kept_pw wr pw 2 (.int .i64 (-1))).trans' (kept_pw _ pw 4 (.slice none 0 0))).drew
    have W6 := W5.out.wrote (r1' := headr u) (v1' := .slice none 0 0) (L1' := []) kk (by have b1 := blk_set (j := 4) (u := .slice none 0 0) (blk_set (j := 2) (u := .int .i64 (-1)) W5.out.blk); simp at b1; rw [show headr u = -1 from HR.out]; exact b1) (W5.out.l0.kept kk fun _ q => q.2) (Lz.nil _ _)
    exact ⟨rfl, F, pa, pm, _, _, tk s k, t, u, sp, mo, W6, HI.out.tk k, by show s.steps + k + pot s t u ≤ _ ∧ sp + pot s t u ≤ _ ∧ _; have := HK.out; omega, HM.out⟩
end Go.Proofs.YthfdooigljkfiaaGreat
