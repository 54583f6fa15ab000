/- Several texts in one. -/
import Derived.Test.YtckoglddhkbgkabGreatGh
import Derived.Test.YtckoglddhkbgkabGreatGb
/- The walks of Pop, Cut, Fall. -/
namespace Go.Proofs.YtckoglddhkbgkabGreat
open Go.ChangeShapes Go.WideShapes Go.ChangeAt Go.RowKit
open Tr

theorem Aft.since {F : Nat → Prop} {w w2 w' : World} {pa pm : Nat} {s : St} (k : Kept F w w2) (hl : ∀ i, F i → i < w.heap.size) (h : Aft F w2 w' pa pm s) : Aft F w w' pa pm s :=
  ⟨h.is.widen (fun _ hj => hj.imp id fun q => ⟨Nat.le_trans k.size q.1, q.2⟩) (Grow.lt hl (Nat.le_trans k.size h.kept.size)), k.trans' h.kept, hl⟩
/-- what a call has done ahead of remove -/
theorem Rmd.from {s s1 s' : St} {H T' : List Nat} {n : Nat} (k : Kp s s1 H) (ok : Ok s) (r : Rmd s1 s' H n T') : Rmd s s' H n T' ∨ mks (hasS s1) H > mks (hasS s) H := by
  rcases Nat.lt_or_ge (mks (hasS s) H) (mks (hasS s1) H) with q | q
  · exact Or.inr q
  · refine Or.inl ⟨r.gh, r.lto, r.ok, ?_, r.most.trans k.sm.most, fun a => by rw [r.ls, k.sm.ls], r.it.trans k.it.1, by rw [← k.it.1]; exact r.free, fun a j hj hne => ?_, fun a ha hne j => ?_, Nat.le_trans r.mrk q⟩
    · rw [r.num]; exact cnt_sm ok k.sm
    · rw [← k.it.1] at hne; exact (r.key a j hj hne).trans (k.key a j hj)
    · rw [← k.it.1] at hne; exact (r.out a ha hne j).trans (k.out a ha j)
/-- the same, but for the Marks -/
structure Rmx (s s' : St) (H : List Nat) (n : Nat) (T' : List Nat) : Prop where
  hq : Hq s' (H.erase n) T'
  ok : Ok s'
  num : cnt s'.pl + 1 = cnt s.pl
  most : s'.most = s.most
  ls : ∀ a, LS s' a = if a = n then false else LS s a
  it : itF (hasS s') = itF (hasS s)
  free : hasS s' (itF (hasS s) n) 9 = -1
  key : ∀ a j, 6 ≤ j → ¬ (a = itF (hasS s) n ∧ j = 9) → hasS s' a j = hasS s a j
  out : ∀ a, a ∉ H → a ≠ itF (hasS s) n → ∀ j, hasS s' a j = hasS s a j
theorem Rmd.rmx {s s1 s' : St} {H T' : List Nat} {n : Nat} (k : Kp s s1 H) (ok : Ok s) (r : Rmd s1 s' H n T') : Rmx s s' H n T' := by
  refine ⟨⟨r.gh, r.lto⟩, r.ok, ?_, r.most.trans k.sm.most, fun a => by rw [r.ls, k.sm.ls], r.it.trans k.it.1, by rw [← k.it.1]; exact r.free, fun a j hj hne => ?_, fun a ha hne j => ?_⟩
  · rw [r.num]; exact cnt_sm ok k.sm
  · rw [← k.it.1] at hne; exact (r.key a j hj hne).trans (k.key a j hj)
  · rw [← k.it.1] at hne; exact (r.out a ha hne j).trans (k.out a ha j)
section
variable {F : Nat → Prop} {w0 w w' : World} {pa pm : Nat} {s : St} {H x T : List Nat} {r n : Nat}
theorem placeT (i : Int) (hr : rootS s (r : Int) = (r : Int)) (hi : cellS s i 9 = (n : Int)) (e : Ex F w0 w pa pm s) (hs : s.steps ≤ 99998000) :
    Calls Tryz.prog 49 #[.pointer (some ⟨pa, 0, none⟩), .int .i64 (r : Int), .int .i64 i] w fun e w' =>
      e = .returned (.int .i64 (n : Int)) ∧ ∃ k, k ≤ 4 ∧ Ex F w0 w' pa pm (tk s k) := by
  have R := hid (rootT (r : Int) e (by omega))
  rw [hr] at R
  have C := hid (fun (k : Nat) w1 (hk : k ≤ 3) (e : Ex F w0 w1 pa pm (tk s k)) => nodeT (s := tk s k) i e (by show s.steps + k ≤ _; omega))
  have HI := hid (show ∀ k, cellS (tk s k) i 9 = (n : Int) from fun k => hi)
  have hr1 : ((r : Int) == -1) = false := by simp
  clear hr hi e
  go_enter Tryz.func49, Tryz.ntmps49
  go_wp2_with fail
  refine R.out.mono ?_
  rintro e w1 ⟨rfl, k1, hk1, e1⟩
  have D := hid (C.out k1 w1 hk1 e1)
  rw [HI.out k1] at D
  clear R C e1
  go_wp2_with fail
  refine D.out.mono ?_
  rintro e w2 ⟨rfl, e2⟩
  have E2 := hid (show Ex F w0 w2 pa pm (tk s (k1 + 1)) by rw [← tk_tk]; exact e2)
  clear D e2
  go_wp2
  go_ret
  exact ⟨rfl, k1 + 1, by omega, E2.out⟩
set_option maxHeartbeats 1000000 in
theorem fpopT_none (ok : Ok s) (e : Ex F w0 w pa pm s) (h : Hq s [] []) (hs : s.steps ≤ 97000000) :
    Calls Tryz.prog 19 #[.pointer (some ⟨pa, 0, none⟩), .int .i64 (-1)] w fun e w' => ∃ k : Nat, e = .returned (.tuple #[.int .i64 (-1), .int .i64 (-1)]) ∧ k ≤ 4 ∧ Ex F w0 w' pa pm (tk s k) := by
  have M := hid ((fminT h ok e (by omega)).mono fun e w' ⟨m, he, m1, _, k, hk, e1⟩ => (show e = Ending.returned (.int .i64 (-1)) ∧ ∃ k, k ≤ 4 ∧ Ex F w0 w' pa pm (tk s k) from ⟨by rw [he, m1 rfl], k, hk, e1⟩))
  rw [show hdL [] = -1 from rfl] at M
  clear h ok e
  go_enter Tryz.func19, Tryz.ntmps19
  go_wp2_with fail
  refine M.out.mono ?_
  rintro e w1 ⟨rfl, k, hk, e1⟩
  have E1 := hid e1
  clear M e1
  go_wp2
  go_ret2
  exact ⟨k, rfl, hk, E1.out⟩
set_option maxHeartbeats 1000000 in
theorem fpopT (h : Hq s H (r :: x)) (hH : H.length ≤ 1000) (ok : Ok s) (e : IsA w F pa pm s) (hs : s.steps ≤ 97000000) :
    Calls Tryz.prog 19 #[.pointer (some ⟨pa, 0, none⟩), .int .i64 (r : Int)] w fun e w' =>
      ∃ (s' : St) (T' : List Nat), e = .returned (.tuple #[.int .i64 (hdL T'), .int .i64 (itF (hasS s) r : Int)]) ∧ Rmx s s' H r T' ∧ Aft F w w' pa pm s' ∧ s.steps ≤ s'.steps ∧ s'.steps + 32 * T'.length + 54 * mks (hasS s') (H.erase r) ≤ s.steps + 32 * (x.length + 1) + 54 * mks (hasS s) H + 730 := by
  have M := hid ((fminT h ok (Ex.start e) (by omega)).mono fun e w' ⟨m, he, _, m2, k, hk, e1⟩ => (show e = Ending.returned (.int .i64 (itF (hasS s) r : Int)) ∧ ∃ k, k ≤ 4 ∧ Ex F w w' pa pm (tk s k) from ⟨by rw [he, m2 r x rfl], k, hk, e1⟩))
  rw [show hdL (r :: x) = (r : Int) from rfl] at M
  have HG := hid h.gh
  have OK := hid ok
  have HFL := hid e.lt
  have hi1 : ((itF (hasS s) r : Int) == -1) = false := by simp
  obtain ⟨i, hi⟩ : ∃ i, i = itF (hasS s) r := ⟨_, rfl⟩
  have HI := hid hi
  rw [← hi] at M hi1 ⊢
  clear h ok e hi
  go_enter Tryz.func19, Tryz.ntmps19
  go_wp2_with fail
  refine M.out.mono ?_
  rintro e w1 ⟨rfl, k, hk, e1⟩
  have R := hid (removeT (s := tk s k) r x (HG.out.tk k) hH (Sm.tk OK.out k).ok e1.is (by show s.steps + k ≤ _; omega))
  have K1 := hid e1.kept
  clear M e1
  go_wp2_with fail
  refine R.out.mono ?_
  rintro e w2 ⟨s', T', rfl, rm, a2, t1, t2⟩
  have RX := hid (Rmd.rmx (Kp.tk OK.out k H) OK.out rm)
  have MK := hid (show mks (hasS s') (H.erase r) ≤ mks (hasS s) H from rm.mrk)
  have A2 := hid (Aft.since K1.out HFL.out a2)
  have T1 : s.steps + k ≤ s'.steps := t1
  have T2 : s'.steps + 32 * T'.length ≤ s.steps + k + 32 * (x.length + 1) + 720 := t2
  clear R rm a2 t1 t2
  generalize hq : hdL T' = d at *
  have HQ := hid hq
  clear hq
  go_wp2
  go_ret2
  exact ⟨s', T', by rw [HQ.out]; rfl, RX.out, A2.out, by omega, by have := MK.out; omega⟩
set_option maxHeartbeats 1000000 in
/-- Cut, of a node's item -/
theorem fcutT (h : Hq s H (r :: x)) (nH : n ∈ H) (hH : H.length ≤ 1000) (ok : Ok s) (e : IsA w F pa pm s) (hs : s.steps + 32 * (x.length + 1) + 54 * mks (hasS s) H ≤ 97000000) :
    Calls Tryz.prog 31 #[.pointer (some ⟨pa, 0, none⟩), .int .i64 (r : Int), .int .i64 (itF (hasS s) n : Int)] w fun e w' =>
      ∃ (s' : St) (T' : List Nat), e = .returned (.int .i64 (hdL T')) ∧ Rmx s s' H n T' ∧ Aft F w w' pa pm s' ∧ s.steps ≤ s'.steps ∧ s'.steps + 32 * T'.length + 54 * mks (hasS s') (H.erase n) ≤ s.steps + 32 * (x.length + 1) + 54 * mks (hasS s) H + 840 := by
  obtain ⟨i1, i2, i3⟩ := h.gh.fh.it n nH
  have P := hid (placeT (n := n) (itF (hasS s) n : Int) (froot h.gh.fh ok) (cell_nat (j := 9) ok i2 (by decide) i3 (h.gh.fh.ln n nH)) (Ex.start e) (by omega))
  have RS := hid (fun (k : Nat) w1 (hk : k ≤ 4) (e : Ex F w w1 pa pm (tk s k)) => riseT (s := tk s k) r x n nH ((h.gh.off n).fh |> fun fh => (⟨fh, (h.gh.off n).od, (h.gh.off n).fb⟩ : Ghx (tk s k) H (r :: x) n)) hH (Sm.tk ok k).ok e (by show s.steps + k + 32 * (x.length + 1) + 54 * mks (hasS s) H ≤ _; omega))
  have OK := hid ok
  have HFL := hid e.lt
  have hn1 : ((n : Int) == -1) = false := by simp
  obtain ⟨i, hi⟩ : ∃ i, i = itF (hasS s) n := ⟨_, rfl⟩
  have HI := hid hi
  rw [← hi] at P ⊢
  obtain ⟨N0, hN0⟩ : ∃ N0, N0 = s.steps + 32 * (x.length + 1) + 54 * mks (hasS s) H := ⟨_, rfl⟩
  rw [← hN0] at hs ⊢
  have HN0 := hid hN0
  clear h ok e hi i1 i2 i3 nH hN0
  go_enter Tryz.func31, Tryz.ntmps31
  go_wp2_with fail
  refine P.out.mono ?_
  rintro e w1 ⟨rfl, k, hk, e1⟩
  have B := hid (RS.out k w1 hk e1)
  clear P RS e1
  go_wp2_with fail
  refine B.out.mono ?_
  rintro e w2 ⟨rfl, s1, x1, e2, g2, n2, kp2, t1, t2⟩
  obtain ⟨a, b, ab⟩ := List.append_of_mem n2
  have g3 := g2
  rw [ab] at g3
  have len : (b ++ a).length + 1 = x1.length + 1 := by
    have := congrArg List.length ab
    simp only [List.length_cons, List.length_append] at this ⊢
    omega
  have T1 : s.steps + k ≤ s1.steps := t1
  have T2 : s1.steps + 32 * (x1.length + 1) + 54 * mks (hasS s1) H ≤ N0 + k + 110 := by have := HN0.out; have z : s1.steps + 32 * (x1.length + 1) + 54 * mks (hasS s1) H ≤ s.steps + k + 32 * (x.length + 1) + 54 * mks (hasS s) H + 110 := t2; omega
  have R := hid (removeT (s := s1) n (b ++ a) (g3.rot (x := a) (y := n :: b)) hH kp2.sm.ok e2.is (by omega))
  have K2 := hid e2.kept
  have KP := hid (show Kp s s1 H from (Kp.tk OK.out k H).trans kp2)
  clear B e2 g2 n2 kp2 t1 t2 g3 ab
  go_wp2_with fail
  refine R.out.mono ?_
  rintro e w3 ⟨s', T', rfl, rm, a3, t3, t4⟩
  have RX := hid (Rmd.rmx KP.out OK.out rm)
  have MK := hid rm.mrk
  have A3 := hid (Aft.since K2.out HFL.out a3)
  have T3 := hid (And.intro t3 t4)
  clear R rm a3 t3 t4
  generalize hq : hdL T' = d at *
  have HQ := hid hq
  clear hq
  go_wp2
  go_ret
  exact ⟨s', T', by rw [HQ.out]; rfl, RX.out, A3.out, by have := T3.out.1; omega, by have := MK.out; have := T3.out.2; omega⟩
/-- what Fall leaves -/
structure Fld (s s' : St) (H T' : List Nat) : Prop where
  hq : Hq s' H T'
  kp : Kp s s' H
set_option maxHeartbeats 2000000 in
/-- Fall, of a node's item whose Key may be before the one above it -/
theorem ffallT (h : Ghx s H (r :: x) n) (fb : Fb (hasS s) H) (lo : ∀ c ∈ H, c ≠ n → befF (hasS s) (itF (hasS s) c) (itF (hasS s) r) = false) (nH : n ∈ H) (hH : H.length ≤ 1000) (ok : Ok s) (e : Ex F w0 w pa pm s) (hs : s.steps + 32 * (x.length + 1) + 54 * mks (hasS s) H ≤ 97000000) :
    Calls Tryz.prog 27 #[.pointer (some ⟨pa, 0, none⟩), .int .i64 (r : Int), .int .i64 (itF (hasS s) n : Int)] w fun e w' =>
      ∃ (s' : St) (T' : List Nat), e = .returned (.int .i64 (hdL T')) ∧ Fld s s' H T' ∧ Ex F w0 w' pa pm s' ∧ s.steps ≤ s'.steps ∧ s'.steps + 32 * T'.length + 54 * mks (hasS s') H ≤ s.steps + 32 * (x.length + 1) + 54 * mks (hasS s) H + 130 := by
  obtain ⟨i1, i2, i3⟩ := h.fh.it n nH
  have rH := ((h.fh.top.mem r).1 (by simp)).1
  have P := hid (placeT (n := n) (itF (hasS s) n : Int) (froot h.fh ok) (cell_nat (j := 9) ok i2 (by decide) i3 (h.fh.ln n nH)) e (by omega))
  have RS := hid (fun (k : Nat) w1 (hk : k ≤ 11) (e : Ex F w0 w1 pa pm (tk s k)) => riseT (s := tk s k) r x n nH ⟨h.fh, h.od, h.fb⟩ hH (Sm.tk ok k).ok e (by show s.steps + k + 32 * (x.length + 1) + 54 * mks (hasS s) H ≤ _; omega))
  have CU := hid (fun (k : Nat) w1 (hk : k ≤ 4) (e : Ex F w0 w1 pa pm (tk s k)) => cellT (s := tk s k) (n : Int) 0 e (by show s.steps + k ≤ _; omega))
  have H0 := hid h
  have LO := hid lo
  have FB := hid fb
  have hs0 : s.steps ≤ 97000000 := by omega
  have OK := hid ok
  have NH := hid nH
  have RH := hid rH
  have hn1 : ((n : Int) == -1) = false := by simp
  obtain ⟨i, hi⟩ : ∃ i, i = itF (hasS s) n := ⟨_, rfl⟩
  rw [← hi] at P ⊢
  obtain ⟨N0, hN0⟩ : ∃ N0, N0 = s.steps + 32 * (x.length + 1) + 54 * mks (hasS s) H := ⟨_, rfl⟩
  rw [← hN0] at hs ⊢
  have HN0 := hid hN0
  -- behind rise: the better one of both
  have FIN := hid (fun (s1 : St) (x1 : List Nat) (w1 : World) (g : Gh s1 H (r :: x1)) (nt : n ∈ r :: x1) (kp : Kp s s1 H) (e1 : Ex F w0 w1 pa pm s1) (hs1 : s1.steps ≤ 99000000) => show
    ∃ T', Hq (tk s1 6) H T' ∧ T'.length = x1.length + 1 ∧ Calls Tryz.prog 52 #[.pointer (some ⟨pa, 0, none⟩), .int .i64 (r : Int), .int .i64 (n : Int)] w1 fun e w' => e = .returned (.int .i64 (hdL T')) ∧ Ex F w0 w' pa pm (tk s1 6) from by
      have FT := firstT (H := H) (s := s1) r n rH nH g.fh kp.sm.ok e1 (by omega)
      have t := befF_tot (hasS s1)
      have lo1 : ∀ c ∈ r :: x1, c ≠ n → befF (hasS s1) (itF (hasS s1) c) (itF (hasS s1) r) = false := fun c hc hne => by
        rw [kp.it.1, kp.it.2]; exact lo c ((g.fh.top.mem c).1 hc).1 hne
      cases z : befF (hasS s1) (itF (hasS s1) n) (itF (hasS s1) r) with
      | true =>
        rw [z] at FT
        obtain ⟨a, b, ab⟩ := List.append_of_mem nt
        have g2 := g
        rw [ab] at g2
        refine ⟨n :: (b ++ a), ⟨(g2.rot (x := a) (y := n :: b)).tk 6, fun c hc => ?_⟩, ?_, FT⟩
        · have hc' : c ∈ r :: x1 := by rw [ab]; simp only [List.mem_cons, List.mem_append] at hc ⊢; rcases hc with q | q | q <;> simp [q]
          by_cases q : c = n
          · rw [q]
            cases w : befF (hasS s1) (itF (hasS s1) n) (itF (hasS s1) n) with
            | false => exact w
            | true => have := t.one _ _ w; rw [w] at this; cases this
          · exact t.le _ _ _ (t.one _ _ z) (lo1 c hc' q)
        · have := congrArg List.length ab
          simp only [List.length_cons, List.length_append] at this ⊢
          omega
      | false =>
        rw [z] at FT
        exact ⟨r :: x1, ⟨g.tk 6, fun c hc => by
          by_cases q : c = n
          · rw [q]; exact z
          · exact lo1 c hc q⟩, rfl, FT⟩)
  clear h lo fb ok e hi i1 i2 i3 nH rH hN0
  go_enter Tryz.func27, Tryz.ntmps27
  go_wp2_with fail
  refine P.out.mono ?_
  rintro e w1 ⟨rfl, k, hk, e1⟩
  have B := hid (CU.out k w1 hk e1)
  rcases H0.out.fh.up n NH.out with eu | ⟨p, pH, eu⟩
  · rw [show cellS (tk s k) (n : Int) 0 = -1 from cell_neg (s := s) (j := 0) (H0.out.fh.ln n NH.out) (by decide) eu] at B
    clear P CU e1 eu
    go_wp2_with fail
    refine B.out.mono ?_
    rintro e w2 ⟨rfl, e2⟩
    have D := hid (RS.out (k + 1) w2 (by omega) (by rw [← tk_tk]; exact e2))
    clear B RS e2
    go_wp2_with fail
    refine D.out.mono ?_
    rintro e w3 ⟨rfl, s1, x1, e3, g3, n3, kp3, t1, t2⟩
    have T1 : s.steps + (k + 1) ≤ s1.steps := t1
    have T2 : s1.steps + 32 * (x1.length + 1) + 54 * mks (hasS s1) H ≤ N0 + (k + 1) + 110 := by have := HN0.out; have z : s1.steps + 32 * (x1.length + 1) + 54 * mks (hasS s1) H ≤ s.steps + (k + 1) + 32 * (x.length + 1) + 54 * mks (hasS s) H + 110 := t2; omega
    have KP := hid (show Kp s s1 H from (Kp.tk OK.out (k + 1) H).trans kp3)
    obtain ⟨T', f1, f2, f3⟩ := FIN.out s1 x1 w3 g3 n3 KP.out e3 (by omega)
    have F1 := hid f1
    have F3 := hid f3
    clear D e3 g3 n3 kp3 t1 t2 f1 f3 FIN
    generalize hq : hdL T' = d at *
    have HQ := hid hq
    clear hq
    go_wp2_with fail
    refine F3.out.mono ?_
    rintro e w4 ⟨rfl, e4⟩
    have E4 := hid e4
    clear F3 e4
    go_wp2
    go_ret
    exact ⟨tk s1 6, T', by rw [HQ.out]; rfl, ⟨F1.out, KP.out.trans (Kp.tk KP.out.sm.ok 6 H)⟩, E4.out, by show _ ≤ s1.steps + 6; omega, by show s1.steps + 6 + _ + 54 * mks (hasS s1) H ≤ _; omega⟩
  · rw [show cellS (tk s k) (n : Int) 0 = (p : Int) from cell_nat (s := s) (j := 0) OK.out (H0.out.fh.ln n NH.out) (by decide) eu (H0.out.fh.ln p pH)] at B
    have hp1 : ((p : Int) != -1) = true := by simp
    have BF := hid (fun w2 (e2 : Ex F w0 w2 pa pm (tk s (k + 1))) => nbeforeT (s := tk s (k + 1)) (n : Int) (p : Int) e2 (by show s.steps + _ ≤ _; omega))
    have nb : nbS (tk s (k + 1)) (n : Int) (p : Int) = befF (hasS s) (itF (hasS s) n) (itF (hasS s) p) := H0.out.fh.before OK.out NH.out pH
    rw [nb] at BF
    cases z : befF (hasS s) (itF (hasS s) n) (itF (hasS s) p) with
    | false =>
      rw [z] at BF
      have RES := hid (show Hq (tk s (k + 7)) H (r :: x) from ⟨⟨H0.out.fh, fun d hd p' hp' => by
        by_cases q : d = n
        · have hp2 : hasS s d 0 = (p' : Int) := hp'
          rw [q] at hp2 ⊢
          have : p' = p := by omega
          rw [this]; exact z
        · exact H0.out.od d hd q p' hp', FB.out⟩, fun c hc => LO.out c ((H0.out.fh.top.mem c).1 hc).1 (fun q => by
          have := ((H0.out.fh.top.mem c).1 hc).2
          rw [q] at this; omega)⟩)
      clear P CU RS e1 eu nb z FIN pH
      go_wp2_with fail
      refine B.out.mono ?_
      rintro e w2 ⟨rfl, e2⟩
      have B2 := hid (BF.out w2 (by rw [← tk_tk]; exact e2))
      clear B BF e2
      go_wp2_with fail
      refine B2.out.mono ?_
      rintro e w3 ⟨rfl, e3⟩
      have E3 := hid (show Ex F w0 w3 pa pm (tk s (k + 7)) by rw [show k + 7 = k + 1 + 6 from rfl, ← tk_tk]; exact e3)
      clear B2 e3
      go_wp2
      go_ret
      exact ⟨tk s (k + 7), r :: x, rfl, ⟨RES.out, Kp.tk OK.out (k + 7) H⟩, E3.out, by show _ ≤ s.steps + (k + 7); omega, by show s.steps + (k + 7) + 32 * (x.length + 1) + 54 * mks (hasS s) H ≤ _; have := HN0.out; omega⟩
    | true =>
      rw [z] at BF
      clear P CU e1 eu nb z
      go_wp2_with fail
      refine B.out.mono ?_
      rintro e w2 ⟨rfl, e2⟩
      have B2 := hid (BF.out w2 (by rw [← tk_tk]; exact e2))
      clear B BF e2
      go_wp2_with fail
      refine B2.out.mono ?_
      rintro e w2b ⟨rfl, e2b⟩
      have D := hid (RS.out (k + 7) w2b (by omega) (by rw [show k + 7 = k + 1 + 6 from rfl, ← tk_tk]; exact e2b))
      clear B2 RS e2b
      go_wp2_with fail
      refine D.out.mono ?_
      rintro e w3 ⟨rfl, s1, x1, e3, g3, n3, kp3, t1, t2⟩
      have T1 : s.steps + (k + 7) ≤ s1.steps := t1
      have T2 : s1.steps + 32 * (x1.length + 1) + 54 * mks (hasS s1) H ≤ N0 + (k + 7) + 110 := by have := HN0.out; have z : s1.steps + 32 * (x1.length + 1) + 54 * mks (hasS s1) H ≤ s.steps + (k + 7) + 32 * (x.length + 1) + 54 * mks (hasS s) H + 110 := t2; omega
      have KP := hid (show Kp s s1 H from (Kp.tk OK.out (k + 7) H).trans kp3)
      obtain ⟨T', f1, f2, f3⟩ := FIN.out s1 x1 w3 g3 n3 KP.out e3 (by omega)
      have F1 := hid f1
      have F3 := hid f3
      clear D e3 g3 n3 kp3 t1 t2 f1 f3 FIN
      generalize hq : hdL T' = d at *
      have HQ := hid hq
      clear hq
      go_wp2_with fail
      refine F3.out.mono ?_
      rintro e w4 ⟨rfl, e4⟩
      have E4 := hid e4
      clear F3 e4
      go_wp2
      go_ret
      exact ⟨tk s1 6, T', by rw [HQ.out]; rfl, ⟨F1.out, KP.out.trans (Kp.tk KP.out.sm.ok 6 H)⟩, E4.out, by show _ ≤ s1.steps + 6; omega, by show s1.steps + 6 + _ + 54 * mks (hasS s1) H ≤ _; omega⟩
end
end Go.Proofs.YtckoglddhkbgkabGreat

/- The walk of Push. -/
namespace Go.Proofs.YtckoglddhkbgkabGreat
open Go.ChangeShapes Go.WideShapes Go.ChangeAt Go.RowKit
open Tr

/-- where item and node are one another's -/
def puB (s : St) (i : Int) : St := setS (setS (takeS (tk s 1)) (nextS s) 6 i) i 9 (nextS s)
theorem puB_steps (s : St) (i : Int) : (puB s i).steps = s.steps + 4 := by unfold puB; rw [set_steps, set_steps, take_steps]; rfl
theorem puB_most (s : St) (i : Int) : (puB s i).most = s.most := by unfold puB; rw [set_most, set_most, take_most]; rfl
theorem puB_view {s : St} {i : Nat} (ok : Ok s) (li0 : LS s i = true) (hx : 0 ≤ nextS s) :
    ∃ n : Nat, nextS s = (n : Int) ∧ LS s n = false ∧ LS (takeS (tk s 1)) n = true ∧ LS (takeS (tk s 1)) i = true ∧ n ≠ i ∧ Ok (puB s (i : Int)) ∧ LS (puB s (i : Int)) n = true ∧ LS (puB s (i : Int)) i = true ∧ (∀ j, j ≠ 6 → hasS (puB s (i : Int)) n j = fr j) ∧ hasS (puB s (i : Int)) n 6 = (i : Int) ∧ hasS (puB s (i : Int)) i 9 = (n : Int) ∧ cnt (puB s (i : Int)).pl = cnt s.pl + 1 ∧
      (∀ c, c ≠ n → LS (puB s (i : Int)) c = LS s c) ∧ ∀ c j, c ≠ n → (c ≠ i ∨ j ≠ 9) → hasS (puB s (i : Int)) c j = hasS s c j := by
  have hk1 := Sm.tk ok 1
  obtain ⟨n, e, h1, h2, h3, h4⟩ := take_view hk1.ok (show 0 ≤ nextS (tk s 1) from hx)
  have e' : nextS s = (n : Int) := e
  have hni : n ≠ i := fun q => by subst q; rw [show LS (tk s 1) n = LS s n from rfl, li0] at h1; cases h1
  have ok1 := hk1.ok.take
  have ln : LS (takeS (tk s 1)) n = true := by rw [h2, if_pos rfl]
  have li : LS (takeS (tk s 1)) i = true := by rw [h2, if_neg (fun q => hni q.symm)]; exact li0
  refine ⟨n, e', h1, ln, li, hni, ?_⟩
  unfold puB
  rw [e']
  have m1 := Sm.set ok1 (n : Int) 6 (i : Int)
  have v1 : hasS (setS (takeS (tk s 1)) (n : Int) 6 (i : Int)) = put (hasS (takeS (tk s 1))) n 6 (i : Int) := set_has (j := 6) ln (by decide)
  have m2 := m1.trans (Sm.set m1.ok (i : Int) 9 (n : Int))
  have v2 : hasS (setS (setS (takeS (tk s 1)) (n : Int) 6 (i : Int)) (i : Int) 9 (n : Int)) = put (put (hasS (takeS (tk s 1))) n 6 (i : Int)) i 9 (n : Int) := by rw [← v1]; exact set_has (j := 9) (by rw [m1.ls]; exact li) (by decide)
  generalize setS (setS (takeS (tk s 1)) (n : Int) 6 (i : Int)) (i : Int) 9 (n : Int) = s3 at *
  refine ⟨m2.ok, by rw [m2.ls]; exact ln, by rw [m2.ls]; exact li, fun j q6 => by rw [v2, put_ne hni, put_nj q6, h3, if_pos rfl], by rw [v2, put_ne hni, put_at], by rw [v2, put_at], by rw [cnt_sm ok1 m2, h4]; rfl, fun c hc => by rw [m2.ls, h2, if_neg hc]; rfl, fun c j hc hi => by rw [v2, put_or hi, put_ne hc, h3, if_neg hc]; rfl⟩
/-- a heap that a call leaves alone -/
theorem Gh.keep {s s' : St} {H T : List Nat} (h : Gh s H T) (hn : ∀ c ∈ H, LS s' c = true ∧ ∀ j, hasS s' c j = hasS s c j) (hi : ∀ c ∈ H, LS s' (itF (hasS s) c) = true ∧ ∀ j, hasS s' (itF (hasS s) c) j = hasS s (itF (hasS s) c) j) : Gh s' H T ∧ (∀ c ∈ H, itF (hasS s') c = itF (hasS s) c) := by
  have it : ∀ c ∈ H, itF (hasS s') c = itF (hasS s) c := fun c hc => by unfold itF; rw [(hn c hc).2 6]
  have kd : ∀ {p : Int} {C : List Nat}, Kd (hasS s) H p C → Kd (hasS s') H p C := fun k => ⟨ring_like k.rg fun c hc => ⟨(hn c ((k.mem c).1 hc).1).2 3, (hn c ((k.mem c).1 hc).1).2 2⟩, k.nd, fun c => by
    rw [k.mem c]
    constructor
    · rintro ⟨z, e⟩; exact ⟨z, by rw [(hn c z).2 0]; exact e⟩
    · rintro ⟨z, e⟩; exact ⟨z, by rw [← (hn c z).2 0]; exact e⟩⟩
  refine ⟨⟨⟨h.fh.nd, fun a ha => (hn a ha).1, fun a ha => ?_, fun a ha b hb => by rw [it a ha]; exact h.fh.sep a ha b hb, fun a ha => by rw [(hn a ha).2 0]; exact h.fh.up a ha, fun a ha => by rw [(hn a ha).2 5]; exact h.fh.mrk a ha, kd h.fh.top, fun p hp => ?_, ?_⟩, fun c hc p hp => ?_, fun p hp D dn dm j => ?_⟩, it⟩
  · rw [it a ha, (hn a ha).2 6, (hi a ha).2 9]
    exact ⟨(h.fh.it a ha).1, (hi a ha).1, (h.fh.it a ha).2.2⟩
  · obtain ⟨C, k1, k2, k3⟩ := h.fh.ch p hp
    exact ⟨C, kd k1, by rw [(hn p hp).2 1]; exact k2, by rw [(hn p hp).2 4]; exact k3⟩
  · obtain ⟨ht, hh⟩ := h.fh.ht
    exact ⟨ht, fun c hc p hp => hh c hc p (by rw [← (hn c hc).2 0]; exact hp)⟩
  · rw [(hn c hc).2 0] at hp
    have pH : p ∈ H := by
      rcases h.fh.up c hc with e | ⟨q, hq, e⟩
      · omega
      · have : p = q := by omega
        rw [this]; exact hq
    have := h.od c hc p hp
    rw [it c hc, it p pH]
    unfold befF at this ⊢
    rw [(hi c hc).2 7, (hi c hc).2 8, (hi p pH).2 7, (hi p pH).2 8]; exact this
  · have hD : ∀ c, c ∈ D ↔ c ∈ H ∧ hasS s c 0 = (p : Int) := fun c => by
      rw [dm c]
      constructor
      · rintro ⟨z, e⟩; exact ⟨z, by rw [← (hn c z).2 0]; exact e⟩
      · rintro ⟨z, e⟩; exact ⟨z, by rw [(hn c z).2 0]; exact e⟩
    rw [show D.countP (fun d => decide (hasS s' d 4 + hasS s' d 5 < (j : Int))) = D.countP (fun d => decide (hasS s d 4 + hasS s d 5 < (j : Int))) from List.countP_congr fun d hd => by
      have := ((hD d).1 hd).1
      rw [(hn d this).2 4, (hn d this).2 5]]
    exact h.fb p hp D dn hD j
theorem Hq.keep {s s' : St} {H T : List Nat} (h : Hq s H T) (hn : ∀ c ∈ H, LS s' c = true ∧ ∀ j, hasS s' c j = hasS s c j) (hi : ∀ c ∈ H, LS s' (itF (hasS s) c) = true ∧ ∀ j, hasS s' (itF (hasS s) c) j = hasS s (itF (hasS s) c) j) : Hq s' H T := by
  obtain ⟨g, it⟩ := h.gh.keep hn hi
  refine ⟨g, ?_⟩
  have l := h.lto
  cases T with
  | nil => trivial
  | cons r x =>
    intro c hc
    have cH := ((g.fh.top.mem c).1 hc).1
    have rH := ((g.fh.top.mem r).1 (by simp)).1
    have := l c hc
    rw [it c cH, it r rH]
    unfold befF at this ⊢
    rw [(hi c cH).2 7, (hi c cH).2 8, (hi r rH).2 7, (hi r rH).2 8]; exact this
theorem mks_keep {s s' : St} {H : List Nat} (hn : ∀ c ∈ H, ∀ j, hasS s' c j = hasS s c j) : mks (hasS s') H = mks (hasS s) H := by
  unfold mks
  exact List.countP_congr fun c hc => by rw [hn c hc 0, hn c hc 5]
/-- what Push leaves: n is the node of the item i -/
structure Psh (s s' : St) (H T T' : List Nat) (n i : Nat) : Prop where
  hq : Hq s' (H ++ [n]) T'
  ok : Ok s'
  new : LS s n = false
  num : cnt s'.pl = cnt s.pl + 1
  most : s'.most = s.most
  ls : ∀ c, LS s' c = if c = n then true else LS s c
  it : itF (hasS s') n = i
  key : ∀ c j, 6 ≤ j → c ≠ n → (c ≠ i ∨ j ≠ 9) → hasS s' c j = hasS s c j
  out : ∀ c, c ∉ H → c ≠ n → ∀ j, (c ≠ i ∨ j ≠ 9) → hasS s' c j = hasS s c j
  len : T'.length = T.length + 1
  mrk : mks (hasS s') (H ++ [n]) = mks (hasS s) H
section
variable {F : Nat → Prop} {w w' : World} {pa pm : Nat} {s : St} {H T : List Nat}
set_option maxHeartbeats 2000000 in
theorem fpushT (i : Nat) (h : Hq s H T) (li : LS s i = true) (h9 : hasS s i 9 = -1) (hi : i ∉ H) (hx : 0 ≤ nextS s) (ok : Ok s) (e : IsA w F pa pm s) (hs : s.steps ≤ 99900000) :
    Calls Tryz.prog 17 #[.pointer (some ⟨pa, 0, none⟩), .int .i64 (hdL T), .int .i64 (i : Int)] w fun e w' =>
      ∃ (T' : List Nat) (n : Nat) (s' : St), e = .returned (.tuple #[.int .i64 (hdL T'), .bool true]) ∧ Psh s s' H T T' n i ∧ Aft F w w' pa pm s' ∧ s.steps ≤ s'.steps ∧ s'.steps ≤ s.steps + 30 := by
  obtain ⟨n, en, nl, t1, t2, hni, ok1, ln1, li1, vf, v6, v9, num1, ls1, oth1⟩ := puB_view ok li hx
  have cnH : ∀ c ∈ H, c ≠ n := fun c hc q => by have := h.gh.fh.ln c hc; rw [q, nl] at this; cases this
  have ciH : ∀ c ∈ H, c ≠ i := fun c hc q => hi (q ▸ hc)
  have itn : ∀ c ∈ H, itF (hasS s) c ≠ n := fun c hc q => by have := (h.gh.fh.it c hc).2.1; rw [q, nl] at this; cases this
  have iti : ∀ c ∈ H, itF (hasS s) c ≠ i := fun c hc q => by have := (h.gh.fh.it c hc).2.2; rw [q, h9] at this; omega
  have K1 : Hq (puB s (i : Int)) H T := h.keep (fun c hc => ⟨by rw [ls1 c (cnH c hc)]; exact h.gh.fh.ln c hc, fun j => oth1 c j (cnH c hc) (Or.inl (ciH c hc))⟩) (fun c hc => ⟨by rw [ls1 _ (itn c hc)]; exact (h.gh.fh.it c hc).2.1, fun j => oth1 _ j (itn c hc) (Or.inl (iti c hc))⟩)
  have it1 : itF (hasS (puB s (i : Int))) n = i := by unfold itF; rw [v6]; simp
  have mk1 : mks (hasS (puB s (i : Int))) H = mks (hasS s) H := mks_keep fun c hc j => oth1 c j (cnH c hc) (Or.inl (ciH c hc))
  have itk : ∀ c ∈ H, itF (hasS (puB s (i : Int))) c = itF (hasS s) c := fun c hc => by unfold itF; rw [oth1 c 6 (cnH c hc) (Or.inl (ciH c hc))]
  have NN := hid (nnewT (i : Int) li (cell_neg (j := 9) li (by decide) h9) hx (by rw [en]; exact t1) t2 (ls_cl ok li) (by omega) (Aft.start e) (by omega))
  rw [show setS (setS (takeS (tk s 1)) (nextS s) 6 (i : Int)) (i : Int) 9 (nextS s) = puB s (i : Int) from rfl, en] at NN
  have st1 := puB_steps s (i : Int)
  have most1 := puB_most s (i : Int)
  have HFL := hid e.lt
  obtain ⟨s1, hs1⟩ : ∃ s1, s1 = puB s (i : Int) := ⟨_, rfl⟩
  rw [← hs1] at ok1 ln1 li1 vf v6 v9 num1 ls1 oth1 K1 it1 mk1 itk NN st1 most1
  have ONE := hid (fun w1 (G : Nat → Prop) (wz : World) (a : Ex G wz w1 pa pm s1) => oneT (s := s1) n ln1 (by rw [vf 2 (by decide)]; rfl) (by rw [vf 3 (by decide)]; rfl) ok1 a (by omega))
  have S1 := hid (show s1.steps = s.steps + 4 from st1)
  have FACT := hid (show ∀ s2, Sm s1 s2 → Ring (hasS s2) [n] → Lnk (hasS s1) (hasS s2) [n] → Hq s2 H T ∧ Hq s2 [n] [n] ∧ (∀ c ∈ H, c ∉ [n]) ∧ (∀ a ∈ H, ∀ m ∈ [n], itF (hasS s2) a ≠ m) ∧ (∀ a ∈ [n], ∀ m ∈ H, itF (hasS s2) a ≠ m) ∧
      ∀ (k : Nat) (s' : St) (T' : List Nat), Mld (tk s2 k) s' H [n] T [n] T' → Psh s s' H T T' n i from fun s2 m2 r2 l2 => by
    have nK : ∀ c, c ≠ n → ∀ j, hasS s2 c j = hasS s1 c j := fun c hc j => by
      have ao := l2.out c (by simpa using hc)
      by_cases h2 : j = 2
      · subst h2; exact ao.1
      · by_cases h3 : j = 3
        · subst h3; exact ao.2
        · exact l2.oth c j h2 h3
    have it2 : itF (hasS s2) = itF (hasS s1) := l2.it.1
    have hn2 : ∀ j, j ≠ 2 → j ≠ 3 → j ≠ 6 → hasS s2 n j = fr j := fun j h2 h3 h6 => (l2.oth n j h2 h3).trans (vf j h6)
    have n0 : hasS s2 n 0 = -1 := by rw [hn2 0 (by decide) (by decide) (by decide)]; rfl
    have q1 : Hq s2 H T := K1.keep (fun c hc => ⟨by rw [m2.ls]; exact K1.gh.fh.ln c hc, nK c (cnH c hc)⟩) (fun c hc => ⟨by rw [m2.ls]; exact (K1.gh.fh.it c hc).2.1, nK _ (by rw [itk c hc]; exact itn c hc)⟩)
    have q2 : Hq s2 [n] [n] := by
      refine ⟨⟨Fh.single (by rw [m2.ls]; exact ln1) ⟨?_, ?_, ?_⟩ ?_ n0 (by rw [hn2 1 (by decide) (by decide) (by decide)]; rfl) (by rw [hn2 4 (by decide) (by decide) (by decide)]; rfl) (by rw [hn2 5 (by decide) (by decide) (by decide)]; rfl) r2, Od.single n0, Fb.single n0⟩, fun c hc => ?_⟩
      · rw [it2, it1, l2.oth n 6 (by decide) (by decide)]; exact v6
      · rw [it2, it1, m2.ls]; exact li1
      · rw [it2, it1, nK i (fun q => hni q.symm)]; exact v9
      · rw [it2, it1]; exact fun q => hni q.symm
      · simp at hc
        rw [hc]
        cases w : befF (hasS s2) (itF (hasS s2) n) (itF (hasS s2) n) with
        | false => rfl
        | true => have := (befF_tot (hasS s2)).one _ _ w; rw [w] at this; cases this
    refine ⟨q1, q2, fun c hc q => by simp at q; exact cnH c hc q, fun a ha m hm => by simp at hm; rw [it2, itk a ha, hm]; exact itn a ha, fun a ha m hm => by simp at ha; rw [it2, ha, it1]; exact fun q => hi (q ▸ hm), fun k s' T' M => ?_⟩
    have it3 : itF (hasS s') = itF (hasS s2) := M.kp.it.1
    refine ⟨M.hq, M.kp.sm.ok, nl, ?_, M.kp.sm.most.trans (m2.most.trans most1), fun c => ?_, by rw [it3, it2]; exact it1, fun c j hj hc hq => ?_, fun c hcH hc j hq => ?_, by rw [M.len]; rfl, ?_⟩
    · rw [cnt_sm (Sm.tk m2.ok k).ok M.kp.sm, show cnt (tk s2 k).pl = cnt s2.pl from rfl, cnt_sm ok1 m2]; exact num1
    · rw [M.kp.sm.ls, show LS (tk s2 k) = LS s2 from rfl, m2.ls]
      by_cases q : c = n
      · rw [if_pos q, q]; exact ln1
      · rw [if_neg q]; exact ls1 c q
    · rw [M.kp.key c j hj, show hasS (tk s2 k) = hasS s2 from rfl, nK c hc]; exact oth1 c j hc hq
    · rw [M.kp.out c (fun z => (List.mem_append.1 z).elim hcH (fun z => hc (by simpa using z))), show hasS (tk s2 k) = hasS s2 from rfl, nK c hc]; exact oth1 c j hc hq
    · rw [M.mrk, show hasS (tk s2 k) = hasS s2 from rfl, mks_single n0, Nat.add_zero, mks_keep fun c hc j => nK c (cnH c hc) j]; exact mk1)
  have hdr : Hid (∀ s2, Hq s2 H T → Ok s2 → rootS s2 (hdL T) = hdL T) := hid fun s2 q o => froot q.gh.fh o
  have hk : (Value.bool true) = .bool true := rfl
  clear h li h9 hi hx ok e en nl t1 t2 hni ok1 ln1 li1 vf v6 v9 num1 ls1 oth1 cnH ciH itn iti K1 it1 mk1 itk st1 most1 hs1 hk
  obtain ⟨d0, hd0⟩ : ∃ d0, d0 = hdL T := ⟨_, rfl⟩
  have HD0 := hid hd0
  rw [← hd0] at hdr ⊢
  clear hd0
  go_enter Tryz.func17, Tryz.ntmps17
  go_wp2_with fail
  refine NN.out.mono ?_
  rintro e w1 ⟨rfl, a1⟩
  have A1 := hid a1
  have B := hid (ONE.out w1 _ _ (Ex.start a1.is))
  clear NN ONE a1
  go_wp2_with fail
  refine B.out.mono ?_
  rintro e w2 ⟨rfl, s2, e2, m2, st2, r2, l2⟩
  obtain ⟨q1, q2, q3, q4, q5, q6⟩ := FACT.out s2 m2 r2 l2
  have hst2 : s2.steps = s.steps + 10 := by have := S1.out; omega
  have RT := hid (rootT (s := s2) d0 e2 (by omega))
  rw [hdr.out s2 q1 m2.ok] at RT
  have MT := hid (fun (k : Nat) w3 (hk : k ≤ 3) (e3 : Ex (Grow F w w1) w1 w3 pa pm (tk s2 k)) => fmeldT (s := tk s2 k) (q1.tk k) (q2.tk k) q3 q4 q5 (Sm.tk m2.ok k).ok e3 (by show s2.steps + k ≤ _; omega))
  rw [← HD0.out] at MT
  have Q6 := hid q6
  clear B e2 m2 st2 r2 l2 q1 q2 q3 q4 q5 q6 FACT
  go_wp2_with fail
  refine RT.out.mono ?_
  rintro e w3 ⟨rfl, k, hk, e3⟩
  have D := hid (MT.out k w3 hk e3)
  clear RT MT e3
  rw [show hdL [n] = (n : Int) from rfl] at D
  go_wp2_with fail
  refine D.out.mono ?_
  rintro e w4 ⟨s', T', rfl, e4, M, t1, t2⟩
  have P := hid (Q6.out k s' T' M)
  have A4 := hid (A1.out.back e4)
  have T1 : s2.steps + k ≤ s'.steps := t1
  have T2 : s'.steps ≤ s2.steps + k + 14 := t2
  clear D e4 M t1 t2 Q6
  generalize hq : hdL T' = d at *
  have HQ := hid hq
  clear hq
  go_wp2
  go_ret2
  exact ⟨T', n, s', by rw [HQ.out]; rfl, P.out, A4.out, by omega, by omega⟩
set_option maxHeartbeats 1000000 in
theorem fpushT_no (i : Nat) (r : Int) (li : LS s i = true) (h9 : hasS s i 9 = -1) (hx : ¬ 0 ≤ nextS s) (e : IsA w F pa pm s) (hs : s.steps ≤ 99900000) :
    Calls Tryz.prog 17 #[.pointer (some ⟨pa, 0, none⟩), .int .i64 r, .int .i64 (i : Int)] w fun e w' =>
      e = .returned (.tuple #[.int .i64 r, .bool false]) ∧ Aft F w w' pa pm (takeS (tk s 1)) := by
  have NN := hid (nnewT_no (i : Int) li (cell_neg (j := 9) li (by decide) h9) hx (Aft.start e) (by omega))
  clear li h9 hx e
  go_enter Tryz.func17, Tryz.ntmps17
  go_wp2_with fail
  refine NN.out.mono ?_
  rintro e w1 ⟨rfl, a1⟩
  have A1 := hid a1
  clear NN a1
  go_wp2
  go_ret2
  exact ⟨rfl, A1.out⟩
end
end Go.Proofs.YtckoglddhkbgkabGreat

/- The walk of nodes: all of a heap. -/
namespace Go.Proofs.YtckoglddhkbgkabGreat
open Go.ChangeShapes Go.WideShapes Go.ChangeAt Go.RowKit
open Tr

/-- P has the top ones, and the children of its first a -/
structure Bfs (f : Nat → Nat → Int) (H T P : List Nat) (a : Nat) : Prop where
  nd : P.Nodup
  sub : ∀ c ∈ P, c ∈ H
  top : ∀ c ∈ T, c ∈ P
  cl : ∀ i p, i < a → P[i]? = some p → ∀ c ∈ H, f c 0 = (p : Int) → c ∈ P
  pr : ∀ c ∈ P, ∀ p : Nat, f c 0 = (p : Int) → ∃ i, i < a ∧ P[i]? = some p
  le : a ≤ P.length
section
variable {L : Nat → Bool} {f : Nat → Nat → Int} {H T P : List Nat} {a : Nat}
theorem Bfs.start (h : Fh L f H T) : Bfs f H T T 0 :=
  ⟨h.top.nd, fun c hc => ((h.top.mem c).1 hc).1, fun c hc => hc, fun i p hi => by omega, fun c hc p hp => by have := ((h.top.mem c).1 hc).2; omega, Nat.zero_le _⟩
theorem Bfs.step (h : Fh L f H T) (b : Bfs f H T P a) {p : Nat} (hp : P[a]? = some p) {C : List Nat} (hC : Kd f H (p : Int) C) : Bfs f H T (P ++ C) (a + 1) := by
  have ha := (List.getElem?_eq_some_iff.1 hp).1
  have out : ∀ c ∈ C, c ∉ P := fun c hc q => by
    obtain ⟨i, hi, e⟩ := b.pr c q p ((hC.mem c).1 hc).2
    have := (List.getElem?_inj ha b.nd).1 (hp.trans e.symm)
    omega
  have _ := h.nd
  refine ⟨?_, fun c hc => ?_, fun c hc => List.mem_append_left _ (b.top c hc), fun i q hi hq c hc e => ?_, fun c hc q e => ?_, by rw [List.length_append]; omega⟩
  · rw [List.nodup_append]
    exact ⟨b.nd, hC.nd, fun x hx y hy e => out y hy (e ▸ hx)⟩
  · exact (List.mem_append.1 hc).elim (b.sub c) fun z => ((hC.mem c).1 z).1
  · rw [List.getElem?_append_left (by omega)] at hq
    by_cases z : i = a
    · subst z
      rw [hp] at hq
      injection hq with hq
      exact List.mem_append_right _ ((hC.mem c).2 ⟨hc, by rw [e, hq]⟩)
    · exact List.mem_append_left _ (b.cl i q (by omega) hq c hc e)
  · rcases List.mem_append.1 hc with z | z
    · obtain ⟨i, hi, e2⟩ := b.pr c z q e
      exact ⟨i, by omega, by rw [List.getElem?_append_left (by omega)]; exact e2⟩
    · have := ((hC.mem c).1 z).2
      have : q = p := by omega
      subst this
      exact ⟨a, by omega, by rw [List.getElem?_append_left ha]; exact hp⟩
theorem Bfs.all (h : Fh L f H T) (b : Bfs f H T P P.length) : P.Perm H := by
  refine (List.perm_ext_iff_of_nodup b.nd h.nd).2 fun c => ⟨b.sub c, fun hc => ?_⟩
  obtain ⟨ht, hh⟩ := h.ht
  have hb : ∀ l : List Nat, ∃ B, ∀ c ∈ l, ht c ≤ B := by
    intro l
    induction l with
    | nil => exact ⟨0, fun c hc => by cases hc⟩
    | cons a l ih =>
      obtain ⟨B, hB⟩ := ih
      refine ⟨max (ht a) B, fun c hc => ?_⟩
      rcases List.mem_cons.1 hc with e | hc
      · rw [e]; omega
      · have := hB c hc; omega
  obtain ⟨B, hB⟩ := hb H
  have go : ∀ k c, c ∈ H → B - ht c ≤ k → c ∈ P := by
    intro k
    induction k with
    | zero =>
      intro c hc hk
      rcases h.up c hc with e | ⟨p, hp, e⟩
      · exact b.top c ((h.top.mem c).2 ⟨hc, e⟩)
      · have := hh c hc p e; have := hB p hp; omega
    | succ k ih =>
      intro c hc hk
      rcases h.up c hc with e | ⟨p, hp, e⟩
      · exact b.top c ((h.top.mem c).2 ⟨hc, e⟩)
      · have h1 := hh c hc p e
        have h2 := hB p hp
        obtain ⟨i, hi⟩ := List.mem_iff_getElem?.1 (ih p hp (by omega))
        exact b.cl i p (List.getElem?_eq_some_iff.1 hi).1 hi c hc e
  exact go _ c hc (Nat.le_refl _)
end
section
variable {F : Nat → Prop} {w w' : World} {pa pm : Nat} {s : St} {H T : List Nat}
set_option maxHeartbeats 2000000 in
theorem fnodesT (h : Fh (LS s) (hasS s) H T) (hH : H.length ≤ 1000) (ok : Ok s) (hA : IsA w F pa pm s) (hs : s.steps ≤ 99600000) :
    Calls Tryz.prog 56 #[.pointer (some ⟨pa, 0, none⟩), .int .i64 (hdL T)] w fun e w' =>
      ∃ v P k, e = .returned v ∧ Own w' w.heap.size v (nd1 P) ∧ P.Perm H ∧ k ≤ 3 + 4 * H.length ∧ Ex F w w' pa pm (tk s k) := by
  have R := hid (rootT (hdL T) (Ex.start hA) (by omega))
  rw [froot h ok] at R
  have lT : T.length ≤ 1000 := Nat.le_trans (nodup_sub_len h.top.nd fun c hc => ((h.top.mem c).1 hc).1) hH
  have RG := hid (fun (k : Nat) w1 (hk : k ≤ 3) (a : IsA w1 F pa pm (tk s k)) => fringT (s := tk s k) T (-1) h.top.rg h.top.nd (fun c hc => h.ln c ((h.top.mem c).1 hc).1) (fun c hc => cell_neg (s := s) (j := 0) (h.ln c ((h.top.mem c).1 hc).1) (by decide) ((h.top.mem c).1 hc).2) (Sm.tk ok k).ok (by omega) a (by show s.steps + k ≤ _; omega))
  have H0 := hid h
  have OK := hid ok
  have HFL := hid hA.lt
  have B0 := hid (Bfs.start h)
  obtain ⟨N, hN⟩ : ∃ N, N = H.length := ⟨_, rfl⟩
  have HN := hid hN
  rw [← hN] at hH ⊢
  have hCh : Hid (∀ n ∈ H, ∃ C, Kd (hasS s) H (n : Int) C ∧ C.length ≤ N ∧ cellS s (n : Int) 1 = hdL C) := hid fun n nH => by
    obtain ⟨C, k1, k2, _⟩ := h.ch n nH
    refine ⟨C, k1, by rw [hN]; exact nodup_sub_len k1.nd fun c hc => ((k1.mem c).1 hc).1, ?_⟩
    cases C with
    | nil => exact cell_neg (j := 1) (h.ln n nH) (by decide) k2
    | cons c y => exact cell_nat (j := 1) ok (h.ln n nH) (by decide) k2 (h.ln c ((k1.mem c).1 (by simp)).1)
  clear h ok hA hN
  generalize hdL T = r0 at R RG ⊢
  go_enter Tryz.func56, Tryz.ntmps56
  go_wp2_with fail
  refine R.out.mono ?_
  rintro e w1 ⟨rfl, k0, hk0, e1⟩
  have D := hid (RG.out k0 w1 hk0 e1.is)
  have K1 := hid e1.kept
  clear R RG e1
  go_wp2_with fail
  refine D.out.mono ?_
  rintro e w2 ⟨v1, rfl, o2, a2, q2⟩
  have O2 := hid (Own.base o2 K1.out.size)
  have A2 := hid (show IsA w2 F pa pm (tk s (k0 + 3 * T.length)) by rw [← tk_tk]; exact a2)
  have K2 := hid (K1.out.trans' q2)
  clear o2 a2 q2 D K1
  go_wp2_with fail
  go_loopw [5, 6] (fun lv av wr => ∃ (P : List Nat) (a k : Nat), av = .int .i64 (a : Int) ∧ a ≤ P.length ∧ P.length ≤ N ∧ Hid (Bfs (hasS s) H T P a) ∧ Hid (Own wr w.heap.size lv (nd1 P)) ∧ k ≤ 3 + a + 3 * P.length ∧ Hid (IsA wr F pa pm (tk s k)) ∧ Hid (Kept F w wr)) (fun _ av _ => N - (intOf av).toNat)
  case atStart => exact ⟨T, 0, k0 + 3 * T.length, rfl, Nat.zero_le _, by have := HN.out; rw [this]; exact nodup_sub_len H0.out.top.nd fun c hc => ((H0.out.top.mem c).1 hc).1, B0, O2, by omega, A2, K2⟩
  case round =>
    clear B0 O2 A2 K2
    obtain ⟨P, a, k, rfl, haP, hPN, hB, ho, hk, hA, hK⟩ := hrel
    obtain ⟨la, lc, rfl⟩ := own_form ho.out
    have hnl : (nd1 P).length = P.length := nd1_len P
    rw [hnl]
    by_cases hlt : a < P.length
    · have hlt' : (a : Int) < (P.length : Int) := by omega
      have hx : P[a]? = some P[a] := List.getElem?_eq_getElem hlt
      generalize P[a] = b at hx
      have hxn := nd1_at hx
      have bH := hB.out.sub b (List.mem_of_getElem? hx)
      obtain ⟨C, k1, k2, k3⟩ := hCh.out b bH
      have NB := hid (hB.out.step H0.out hx k1)
      rcases (Own.lst ho.out) with ⟨a', c', e, y1, y2, y3, y4⟩
      rw [hnl] at e
      have e1 : la = a' ∧ lc = c' := by injection e; exact ⟨by assumption, by assumption⟩
      obtain ⟨e1, e2⟩ := e1
      subst e1 e2
      rcases y4 with y | ⟨bl, off, e2, hb, hc⟩
      · have h1 : (nd1 P).length = 0 := by rw [y]; rfl
        omega
      · subst e2
        have c1 : wr.cell? ⟨bl, off + a, none⟩ = some (.int .i64 (b : Int)) := hc _ _ hxn
        have CH := hid (fchildT (s := tk s k) b C k3 k1.rg k1.nd (fun c hc => H0.out.ln c ((k1.mem c).1 hc).1) (fun c hc => cell_nat (s := s) (j := 0) OK.out (H0.out.ln c ((k1.mem c).1 hc).1) (by decide) ((k1.mem c).1 hc).2 (H0.out.ln b bH)) (Sm.tk OK.out k).ok (by omega) hA.out (by show s.steps + k ≤ _; omega))
        have hPC : (P ++ C).length ≤ N := by
          rw [HN.out]; exact nodup_sub_len NB.out.nd NB.out.sub
        have hPCl : (P ++ C).length = P.length + C.length := List.length_append
        have HO := hid (show Own wr w.heap.size (.slice (some ⟨bl, off, none⟩) P.length lc) (nd1 P) by have := ho.out; rwa [hnl] at this)
        have NM := hid (show nd1 (P ++ C) = nd1 P ++ nd1 C by simp [nd1])
        have HNL := hid hnl
        have HCL := hid (nd1_len C)
        clear hx hxn hc e y1 y2 y3 ho hnl bH k1 k3
        go_wp2_with fail
        refine CH.out.mono ?_
        rintro e w3 ⟨v2, rfl, o2, a2, q2⟩
        have O2 := hid o2
        have A2 := hid (show IsA w3 F pa pm (tk s (k + (1 + 3 * C.length))) by rw [← tk_tk]; exact a2)
        have P2 := hid (show Own w3 w.heap.size (.slice (some ⟨bl, off, none⟩) P.length lc) (nd1 P) from own_kept HO.out q2 (fun i hi hF => by have := (World.ownsRow.lt HO.out i hi).1; have := HFL.out i hF; omega))
        have K2 := hid (hK.out.trans' q2)
        have hsz := K2.out.size
        have OA := hid (show w3.ownsRow w.heap.size 3 1 (.slice (some ⟨bl, off, none⟩) P.length lc) P.length (row int1 (nd1 P)) from by have := P2.out; unfold Own at this; rwa [HNL.out] at this)
        clear o2 a2 q2 CH HO hA hK
        go_wp2_with (at_builtin; refine wpList_append_lst rfl (.tmp 18) (.tmp 24) rfl w.heap.size _ _ P.length (row int1 (nd1 P)) (nd1 C) rfl rfl (by exact OA.out) (by exact O2.out.lst) (by rw [HCL.out]; omega) hsz ?_; intro v4 w4 o4 g4; have O4 := hid o4; have G4 := hid g4; clear o4 g4)
        have hrow : ∀ i, (Value.slice (some ⟨bl, off, none⟩) P.length lc).ownBlock = some i → w.heap.size ≤ i := fun i hi => (World.ownsRow.lt OA.out i hi).1
        have K4 := hid (K2.out.grown G4.out (fun i hi => Or.inr (hrow i hi)))
        have A4 := hid (A2.out.kept ((Kept.refl (fun i => w.heap.size ≤ i) w3).grown G4.out (fun i hi => Or.inl (hrow i hi))) (fun i hF hi => by have := HFL.out i hF; omega))
        have L4 := hid (show Own w4 w.heap.size v4 (nd1 (P ++ C)) from by
          have := O4.out
          unfold Own
          rw [NM.out, row_append, List.length_append, HNL.out]
          exact this)
        clear O4 G4 hrow OA K2 A2 P2 O2
        go_wp2
        go_roundw
        case rel => exact ⟨P ++ C, a + 1, k + (1 + 3 * C.length), by go_num, by omega, hPC, NB, L4, by omega, A4, K4⟩
        case measure => simp [intOf]; omega
    · obtain rfl : a = P.length := by omega
      have AL := hid (Bfs.all H0.out hB.out)
      have hlP := AL.out.length_eq
      have hk2 : k ≤ 3 + 4 * N := by omega
      have HO := hid (show Own wr w.heap.size (.slice la P.length lc) (nd1 P) by have := ho.out; rwa [hnl] at this)
      clear ho hnl hlP hB
      go_wp2
      go_ret
      exact ⟨_, P, k, rfl, HO.out, AL.out, hk2, hA.out, hK.out⟩
end
end Go.Proofs.YtckoglddhkbgkabGreat
