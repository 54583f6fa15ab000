/- Several texts in one. -/
import Derived.Test.YtckoglddhkbgkabGreatGg
import Derived.Test.YtckoglddhkbgkabGreatGc
/- The walks of leave and rise. -/
namespace Go.Proofs.YtckoglddhkbgkabGreat
open Go.ChangeShapes Go.WideShapes Go.ChangeAt Go.RowKit
open Tr

/-- the end of leave -/
def lvS (s : St) (u c : Int) (d k : Int) : St := setS (setS (tk (setS s u 1 d) 1) u 4 (k - 1)) c 0 (-1)
theorem lv_steps (s : St) (u c d k : Int) : (lvS s u c d k).steps = s.steps + 4 := by
  unfold lvS; rw [set_steps, set_steps]; show (setS s u 1 d).steps + 1 + 1 + 1 = _; rw [set_steps]
theorem lv_sm {s : St} (ok : Ok s) (u c d k : Int) : Sm s (lvS s u c d k) := by
  unfold lvS
  have k1 := Sm.set ok u 1 d
  have k2 := k1.trans (Sm.tk k1.ok 1)
  have k3 := k2.trans (Sm.set k2.ok u 4 (k - 1))
  exact k3.trans (Sm.set k3.ok c 0 (-1))
theorem lv_has {s : St} {u c : Nat} {d k : Int} (lu : LS s u = true) (lc : LS s c = true) : hasS (lvS s (u : Int) (c : Int) d k) = put (put (put (hasS s) u 1 d) u 4 (k - 1)) c 0 (-1) := by
  unfold lvS
  have h1 : hasS (setS s (u : Int) 1 d) = put (hasS s) u 1 d := set_has (j := 1) lu (by decide)
  have h2 := set_has (s := tk (setS s (u : Int) 1 d) 1) (c := u) (j := 4) (v := k - 1) (by show LS (setS s _ _ _) u = true; rw [set_ls]; exact lu) (by decide)
  have h3 := set_has (s := setS (tk (setS s (u : Int) 1 d) 1) (u : Int) 4 (k - 1)) (c := c) (j := 0) (v := -1) (by rw [set_ls]; show LS (setS s _ _ _) c = true; rw [set_ls]; exact lc) (by decide)
  have h2' : hasS (setS (tk (setS s (u : Int) 1 d) 1) (u : Int) 4 (k - 1)) = put (put (hasS s) u 1 d) u 4 (k - 1) := by rw [← h1]; exact h2
  rw [← h2']; exact h3
section
variable {F : Nat → Prop} {w0 w w' : World} {pa pm : Nat} {s : St} {H : List Nat}
set_option maxHeartbeats 1000000 in
theorem fleaveT (u c : Nat) (y : List Nat) (hr : Ring (hasS s) (c :: y)) (hn : (c :: y).Nodup) (hl : ∀ a ∈ c :: y, LS s a = true) (lu : LS s u = true) (h4 : hasS s u 4 = ((y.length + 1 : Nat) : Int)) (hy : y.length ≤ 40000) (ok : Ok s) (h : Ex F w0 w pa pm s) (hs : s.steps ≤ 99999000) :
    Calls Tryz.prog 75 #[.pointer (some ⟨pa, 0, none⟩), .int .i64 (u : Int), .int .i64 (c : Int)] w fun e w' =>
      e = .returned (.tuple #[]) ∧ ∃ s', Ex F w0 w' pa pm s' ∧ Sm s s' ∧ s'.steps = s.steps + 12 ∧ (∀ a, hasS s' a 0 = if a = c then -1 else hasS s a 0) ∧ (∀ a, hasS s' a 1 = if a = u then hdL y else hasS s a 1) ∧ (∀ a, hasS s' a 4 = if a = u then hasS s u 4 - 1 else hasS s a 4) ∧ (∀ a j, 5 ≤ j → hasS s' a j = hasS s a j) ∧
        Ring (hasS s') y ∧ Ring (hasS s') [c] ∧ ∀ a, a ∉ c :: y → hasS s' a 2 = hasS s a 2 ∧ hasS s' a 3 = hasS s a 3 := by
  have A := hid (routT c y hr hn hl ok h (by omega))
  have lc : LS s c = true := hl c (by simp)
  obtain ⟨k, hk⟩ : ∃ k : Nat, k = y.length + 1 := ⟨_, rfl⟩
  rw [← hk] at h4
  have hk2 : k ≤ 40001 := by omega
  have H4 := hid h4
  have LU := hid lu
  have LC := hid lc
  have hw1 : IntKind.i64.wrap ((k : Int) - 1) = (k : Int) - 1 := IntWalk.i64_in _ (by omega)
  clear hr hn hl lu h4 ok h lc hk
  go_enter Tryz.func75, Tryz.ntmps75
  go_wp2_with fail
  refine A.out.mono ?_
  rintro e w1 ⟨rfl, s1, e1, m1, st1, r1, r2, l1⟩
  have ls1 : LS s1 u = true := by rw [m1.ls]; exact LU.out
  have S1 := hid (setT (u : Int) 1 (hdL y) e1 (by omega))
  generalize mayS s1 (u : Int) 1 = b1 at S1
  have g4 : getS (setS s1 (u : Int) 1 (hdL y)) (u : Int) 4 = (k : Int) := (get_nat (s := setS s1 (u : Int) 1 (hdL y)) (c := u) (j := 4) (by rw [set_ls]; exact ls1) (by decide)).trans (by rw [show hasS (setS s1 (u : Int) 1 (hdL y)) = put (hasS s1) u 1 (hdL y) from set_has (j := 1) ls1 (by decide), put_nj (by decide), l1.oth u 4 (by decide) (by decide)]; exact H4.out)
  have S2 := hid (fun w2 (e2 : Ex F w0 w2 pa pm (setS s1 (u : Int) 1 (hdL y))) => getT (u : Int) 4 e2 (by rw [set_steps]; omega))
  rw [g4] at S2
  have S3 := hid (fun w2 (e2 : Ex F w0 w2 pa pm (tk (setS s1 (u : Int) 1 (hdL y)) 1)) => setT (u : Int) 4 ((k : Int) - 1) e2 (by show (setS s1 _ _ _).steps + 1 ≤ _; rw [set_steps]; omega))
  generalize mayS (tk (setS s1 (u : Int) 1 (hdL y)) 1) (u : Int) 4 = b3 at S3
  have S4 := hid (fun w2 (e2 : Ex F w0 w2 pa pm (setS (tk (setS s1 (u : Int) 1 (hdL y)) 1) (u : Int) 4 ((k : Int) - 1))) => setT (c : Int) 0 (-1) e2 (by rw [set_steps]; show (setS s1 _ _ _).steps + 1 + 1 ≤ _; rw [set_steps]; omega))
  generalize mayS (setS (tk (setS s1 (u : Int) 1 (hdL y)) 1) (u : Int) 4 ((k : Int) - 1)) (c : Int) 0 = b4 at S4
  have FIN := hid (show ∃ s', lvS s1 (u : Int) (c : Int) (hdL y) (k : Int) = s' ∧ Sm s s' ∧ s'.steps = s.steps + 12 ∧ (∀ a, hasS s' a 0 = if a = c then -1 else hasS s a 0) ∧ (∀ a, hasS s' a 1 = if a = u then hdL y else hasS s a 1) ∧ (∀ a, hasS s' a 4 = if a = u then hasS s u 4 - 1 else hasS s a 4) ∧ (∀ a j, 5 ≤ j → hasS s' a j = hasS s a j) ∧
        Ring (hasS s') y ∧ Ring (hasS s') [c] ∧ ∀ a, a ∉ c :: y → hasS s' a 2 = hasS s a 2 ∧ hasS s' a 3 = hasS s a 3 from by
    have v := lv_has (s := s1) (u := u) (c := c) (d := hdL y) (k := (k : Int)) ls1 (by rw [m1.ls]; exact LC.out)
    have o : ∀ a j, j = 2 ∨ j = 3 → hasS (lvS s1 (u : Int) (c : Int) (hdL y) (k : Int)) a j = hasS s1 a j := fun a j hj => by rw [v, put_nj (by omega), put_nj (by omega), put_nj (by omega)]
    refine ⟨_, rfl, m1.trans (lv_sm m1.ok _ _ _ _), by rw [lv_steps]; omega, fun a => ?_, fun a => ?_, fun a => ?_, fun a j hj => ?_, ring_like r1 fun d _ => ⟨o d 3 (Or.inr rfl), o d 2 (Or.inl rfl)⟩, ring_like r2 fun d _ => ⟨o d 3 (Or.inr rfl), o d 2 (Or.inl rfl)⟩, fun a ha => ⟨(o a 2 (Or.inl rfl)).trans (l1.out a ha).1, (o a 3 (Or.inr rfl)).trans (l1.out a ha).2⟩⟩
    · rw [v]
      by_cases e : a = c
      · rw [if_pos e, e, put_at]
      · rw [if_neg e, put_ne e, put_nj (by decide), put_nj (by decide)]; exact l1.oth a 0 (by decide) (by decide)
    · rw [v, put_nj (by decide), put_nj (by decide)]
      by_cases e : a = u
      · rw [if_pos e, e, put_at]
      · rw [if_neg e, put_ne e]; exact l1.oth a 1 (by decide) (by decide)
    · rw [v, put_nj (by decide)]
      by_cases e : a = u
      · rw [if_pos e, e, put_at, H4.out]
      · rw [if_neg e, put_ne e, put_nj (by decide)]; exact l1.oth a 4 (by decide) (by decide)
    · rw [v, put_nj (by omega), put_nj (by omega), put_nj (by omega)]; exact l1.oth a j (by omega) (by omega))
  clear e1 m1 st1 r1 r2 l1 A ls1 g4
  generalize hd0 : hdL y = d0 at *
  have HD0 := hid hd0
  clear hd0
  go_wp2_with fail
  refine S1.out.mono ?_
  rintro e wa ⟨rfl, ea⟩
  have B2 := hid (S2.out wa ea)
  clear S1 S2 ea
  go_wp2_with fail
  refine B2.out.mono ?_
  rintro e wb ⟨rfl, eb⟩
  have B3 := hid (S3.out wb eb)
  clear B2 S3 eb
  go_wp2_with fail
  refine B3.out.mono ?_
  rintro e wc ⟨rfl, ec⟩
  have B4 := hid (S4.out wc ec)
  clear B3 S4 ec
  go_wp2_with fail
  refine B4.out.mono ?_
  rintro e wd ⟨rfl, ed⟩
  have E4 := hid (show Ex F w0 wd pa pm (lvS s1 (u : Int) (c : Int) d0 (k : Int)) from ed)
  clear B4 ed
  obtain ⟨s', q0, q⟩ := FIN.out
  rw [q0] at E4
  have Q := hid q
  clear q q0 FIN
  go_wp2
  go_end0
  exact ⟨rfl, s', E4.out, by rw [HD0.out]; exact Q.out⟩
set_option maxHeartbeats 4000000 in
/-- n, and what above it has lost a child before, are top ones -/
theorem riseT (r : Nat) (x : List Nat) (n : Nat) (nH : n ∈ H) (h : Ghx s H (r :: x) n) (hH : H.length ≤ 1000) (ok : Ok s) (hE : Ex F w0 w pa pm s) (hs : s.steps + 32 * (x.length + 1) + 54 * mks (hasS s) H ≤ 99000000) :
    Calls Tryz.prog 51 #[.pointer (some ⟨pa, 0, none⟩), .int .i64 (r : Int), .int .i64 (n : Int)] w fun e w' =>
      e = .returned (.tuple #[]) ∧ ∃ (s' : St) (x' : List Nat), Ex F w0 w' pa pm s' ∧ Gh s' H (r :: x') ∧ n ∈ r :: x' ∧ Kp s s' H ∧ s.steps ≤ s'.steps ∧ s'.steps + 32 * (x'.length + 1) + 54 * mks (hasS s') H ≤ s.steps + 32 * (x.length + 1) + 54 * mks (hasS s) H + 110 := by
  have rH := ((h.fh.top.mem r).1 (by simp)).1
  have upv : ∀ (s : St) (T : List Nat) (c : Nat), Fh (LS s) (hasS s) H T → Ok s → c ∈ H → cellS s (c : Int) 0 = hasS s c 0 := fun s T c fh ok hc => by
    rcases fh.up c hc with e | ⟨p, hp, e⟩
    · rw [e]; exact cell_neg (j := 0) (fh.ln c hc) (by decide) e
    · rw [e]; exact cell_nat (j := 0) ok (fh.ln c hc) (by decide) e (fh.ln p hp)
  have C0 := hid (cellT (n : Int) 0 hE (by omega))
  rw [upv s _ n h.fh ok nH] at C0
  obtain ⟨ht, hh⟩ := h.fh.ht
  obtain ⟨B, hB⟩ : ∃ B, ∀ c ∈ H, ht c ≤ B := by
    have hb : ∀ l : List Nat, ∃ B, ∀ c ∈ l, ht c ≤ B := by
      intro l
      induction l with
      | nil => exact ⟨0, fun c hc => by cases hc⟩
      | cons a l ih =>
        obtain ⟨B, hB⟩ := ih
        refine ⟨max (ht a) B, fun c hc => ?_⟩
        rcases List.mem_cons.1 hc with e | hc
        · rw [e]; omega
        · have := hB c hc; omega
    exact hb H
  have UPV := hid upv
  have HB := hid hB
  have H0 := hid h
  have HH := hid hh
  have OK := hid ok
  have NH := hid nH
  have RH := hid rH
  obtain ⟨N0, hN0⟩ : ∃ N0, N0 = s.steps + 32 * (x.length + 1) + 54 * mks (hasS s) H + 1 := ⟨_, rfl⟩
  have hN1 : N0 ≤ 99000001 := by omega
  have HN0 := hid hN0
  obtain ⟨q0, hq0⟩ : ∃ q0, q0 = s.steps := ⟨_, rfl⟩
  have HQ0 := hid hq0
  clear h ok nH hE hh hB rH upv hs hN0 hq0
  go_enter Tryz.func51, Tryz.ntmps51
  go_wp2_with fail
  refine C0.out.mono ?_
  rintro e w1 ⟨rfl, e1⟩
  have E1 := hid e1
  clear e1 C0
  go_wp2_with fail
  go_loopw [2, 6] (fun nv uv wr => ∃ (c : Nat) (z : St) (y : List Nat) (fst : Bool), nv = .int .i64 (c : Int) ∧ uv = .int .i64 (hasS z c 0) ∧ Hid (c ∈ H ∧ Ghx z H (r :: y) c ∧ (∀ a ∈ H, ∀ p : Nat, hasS z a 0 = (p : Int) → ht a < ht p) ∧ n ∈ c :: r :: y ∧ Kp s z H ∧ Ex F w0 wr pa pm z) ∧ Hid (fst = false → hasS z c 0 ≠ -1 → hasS z c 5 = 1) ∧ q0 ≤ z.steps ∧ z.steps + 32 * (y.length + 1) + 54 * mks (hasS z) H ≤ N0 + (if fst = true then 0 else 54)) (fun nv _ _ => B + 1 - ht (intOf nv).toNat)
  case atStart => exact ⟨n, tk s 1, x, true, rfl, rfl, hid ⟨NH.out, ⟨H0.out.fh, H0.out.od, H0.out.fb⟩, HH.out, by simp, Kp.tk OK.out 1 H, E1.out⟩, hid (fun e => by cases e), by show q0 ≤ s.steps + 1; have := HQ0.out; omega, by show s.steps + 1 + 32 * (x.length + 1) + 54 * mks (hasS s) H ≤ _; have := HN0.out; simp; omega⟩
  case round =>
    clear E1
    obtain ⟨c, z, y, fst, rfl, rfl, hP, hM, s1, s2⟩ := hrel
    obtain ⟨p1, p2, p3, p4, p5, p6⟩ := hP.out
    have hk1 : z.steps ≤ 99000100 := by split at s2 <;> omega
    rcases p2.fh.up c p1 with e0 | ⟨u, uH, e0⟩
    · have G := hid (p2.top e0)
      have NT := hid (show n ∈ r :: y by
        rcases List.mem_cons.1 p4 with e | q
        · rw [e]; exact (p2.fh.top.mem c).2 ⟨p1, e0⟩
        · exact q)
      have K5 := hid p5
      have E6 := hid p6
      rw [e0]
      clear p1 p2 p3 p4 p5 p6 hP hM e0
      go_wp2
      go_end0
      exact ⟨rfl, z, y, E6.out, G.out, NT.out, K5.out, by rw [← HQ0.out]; exact s1, by have := HN0.out; split at s2 <;> omega⟩
    · obtain ⟨D, d1, _, d3⟩ := p2.fh.ch u uH
      obtain ⟨a1, a2, ea⟩ := List.append_of_mem ((d1.mem c).2 ⟨p1, e0⟩)
      have d1' := d1
      rw [ea] at d1'
      have k1 : Kd (hasS z) H (u : Int) (c :: (a2 ++ a1)) := d1'.rot (x := a1) (y := c :: a2)
      obtain ⟨v, hv⟩ : ∃ v, v = a2 ++ a1 := ⟨_, rfl⟩
      rw [← hv] at k1
      have vlen : D.length = v.length + 1 := by rw [ea, hv]; simp; omega
      have v1000 : v.length ≤ 1000 := by
        have := nodup_sub_len k1.nd fun a ha => ((k1.mem a).1 ha).1
        rw [List.length_cons] at this; omega
      have lv : ∀ a ∈ c :: v, LS z a = true := fun a ha => p2.fh.ln a ((k1.mem a).1 ha).1
      have LVT := hid (fleaveT (s := z) u c v k1.rg k1.nd lv (p2.fh.ln u uH) (by rw [d3, vlen]) (by omega) p5.sm.ok p6 (by omega))
      have hu1 : ((u : Int) != -1) = true := by simp
      have DIS := hid (show ∀ a ∈ c :: v, a ∉ r :: y from fun a ha q => by have := ((k1.mem a).1 ha).2; have := ((p2.fh.top.mem a).1 q).2; omega)
      have ULV := hid p2.fh.ln
      have TMEM := hid p2.fh.top
      have HP2 := hid p2
      have HP3 := hid p3
      have HP4 := hid p4
      have HP5 := hid p5
      have K1 := hid k1
      have UH := hid uH
      have CH := hid p1
      have hcu : ht c < ht u := p3 c p1 u e0
      have huB : ht u ≤ B := HB.out u uH
      have E0 := hid e0
      rw [e0]
      clear p1 p2 p3 p4 p5 p6 hP d1 d1' d3 ea hv k1 lv uH e0
      go_wp2_with fail
      refine LVT.out.mono ?_
      rintro e w2 ⟨rfl, z2, e2, m2, t2, g0, g1, g4, g5, r1, r2, out2⟩
      have rt : Ring (hasS z2) (r :: y) := ring_like TMEM.out.rg fun a ha => by
        have := out2 a (fun q => DIS.out a q ha)
        exact ⟨this.2, this.1⟩
      have J := hid (rjoinT (s := z2) r y c [] rt r2 (by
        rw [List.nodup_append]
        exact ⟨TMEM.out.nd, by simp, fun a ha b hb e => by simp at hb; subst hb; exact DIS.out b (by simp) (e ▸ ha)⟩) (fun a ha => by
        rw [m2.ls]
        rcases List.mem_append.1 ha with q | q
        · exact ULV.out a ((TMEM.out.mem a).1 q).1
        · simp at q; rw [q]; exact ULV.out c CH.out) m2.ok e2 (by omega))
      have G0 := hid g0
      have G1 := hid g1
      have G4 := hid g4
      have G5 := hid g5
      have R1 := hid r1
      have OUT2 := hid out2
      have M2 := hid m2
      clear e2 m2 g0 g1 g4 g5 r1 r2 out2 rt LVT
      go_wp2_with fail
      refine J.out.mono ?_
      rintro e w3 ⟨rfl, z3, e3, m3, t3, rj, lj⟩
      have cut : Cut1 (hasS z) (hasS z3) r u c y v := by
        refine ⟨fun a => by rw [lj.oth a 0 (by decide) (by decide)]; exact G0.out a, fun a => by rw [lj.oth a 1 (by decide) (by decide)]; exact G1.out a, fun a => by rw [lj.oth a 4 (by decide) (by decide)]; exact G4.out a, fun a j hj => by rw [lj.oth a j (by omega) (by omega)]; exact G5.out a j hj, rj, lj.ring R1.out fun a ha q => ?_, fun a ha => ?_⟩
        · rcases List.mem_append.1 q with q | q
          · exact DIS.out a (by simp [ha]) q
          · simp at q
            subst q
            exact (List.nodup_cons.1 K1.out.nd).1 ha
        · have q1 : a ∉ (r :: y) ++ [c] := fun q => ha (by
            rcases List.mem_append.1 q with q | q
            · exact List.mem_append_left _ q
            · simp at q; rw [q]; simp)
          have q2 : a ∉ c :: v := fun q => ha (List.mem_append_right _ q)
          exact ⟨(lj.out a q1).1.trans (OUT2.out a q2).1, (lj.out a q1).2.trans (OUT2.out a q2).2⟩
      have m03 := M2.out.trans m3
      have fh3 : Fh (LS z3) (hasS z3) H (r :: c :: y) := by rw [m03.ls]; exact HP2.out.fh.cut K1.out UH.out cut
      have od3 : Od (hasS z3) H := Od.cut HP2.out.od cut
      have mk3 := mks_cut CH.out HP2.out.fh.nd (by rw [E0.out]; omega) cut
      have fb3 := fun (vv : Nat → Int) h1 h2 => Fb.cut HP2.out.fh HP2.out.fb K1.out cut (v := vv) h1 h2
      have kp3 : Kp z z3 H := ⟨m03, fun a j hj => cut.e5 a j (by omega), fun a ha j => by
        have ac : a ≠ c := fun e => ha (e ▸ CH.out)
        have au : a ≠ u := fun e => ha (e ▸ UH.out)
        have ao := cut.out a (fun q => by
          rcases List.mem_append.1 q with q | q
          · exact ha ((TMEM.out.mem a).1 q).1
          · exact ha ((K1.out.mem a).1 q).1)
        rcases Nat.lt_or_ge j 5 with hj | hj
        · match j, hj with
          | 0, _ => rw [cut.e0, if_neg ac]
          | 1, _ => rw [cut.e1, if_neg au]
          | 2, _ => exact ao.1
          | 3, _ => exact ao.2
          | 4, _ => rw [cut.e4, if_neg au]
        · exact cut.e5 a j hj⟩
      have ht3 : ∀ a ∈ H, ∀ p : Nat, hasS z3 a 0 = (p : Int) → ht a < ht p := fun a ha p hp => by
        rw [cut.e0] at hp
        by_cases q : a = c
        · rw [if_pos q] at hp; omega
        · rw [if_neg q] at hp; exact HP3.out a ha p hp
      have n3 : n ∈ u :: r :: c :: y := by
        have := HP4.out
        simp only [List.mem_cons] at this ⊢
        rcases this with q | q | q <;> simp [q]
      have fbx3 : FbX (hasS z3) H u := fun p hp D dn dm j => by
        have h1 := fb3 (fun d => if d = u then hasS z3 u 4 + hasS z3 u 5 + 1 else hasS z3 d 4 + hasS z3 d 5) (fun d _ hd => if_neg hd) (if_pos rfl) p hp D dn dm j
        refine Nat.le_trans ?_ h1
        refine Nat.le_trans (Nat.le_of_eq ?_) (List.Sublist.countP_le (List.erase_sublist (a := u)))
        refine List.countP_congr fun d hd => ?_
        have : d ≠ u := (dn.mem_erase_iff.1 hd).1
        rw [if_neg this]
      have mkH := fh3.mrk u UH.out
      have st3 : z3.steps + 32 * ((c :: y).length + 1) + 54 * mks (hasS z3) H ≤ N0 + 52 := by
        have e1 : z3.steps = z.steps + 20 := by omega
        rw [List.length_cons]
        cases fst with
        | true => simp at s2; omega
        | false =>
          have h5 := hM.out rfl (by rw [E0.out]; omega)
          rw [h5] at mk3
          simp at s2 mk3; omega
      have hz3 : z3.steps ≤ 99000200 := by omega
      have UU := hid (UPV.out z3 _ u fh3 (HP5.out.trans kp3).sm.ok UH.out)
      have C1 := hid (cellT (u : Int) 0 e3 (by omega))
      rw [UU.out] at C1
      have hq : q0 ≤ z3.steps := by omega
      rcases fh3.up u UH.out with eu | ⟨u2, u2H, eu⟩
      · rw [eu] at C1
        have NEXT := hid (show u ∈ H ∧ Ghx (tk z3 1) H (r :: c :: y) u ∧ (∀ a ∈ H, ∀ p : Nat, hasS (tk z3 1) a 0 = (p : Int) → ht a < ht p) ∧ n ∈ u :: r :: c :: y ∧ Kp s (tk z3 1) H from ⟨UH.out, ⟨fh3, fun d hd _ p hp => od3 d hd p hp, fbx3⟩, ht3, n3, (HP5.out.trans kp3).trans (Kp.tk m03.ok 1 H)⟩)
        have EU := hid eu
        clear cut m03 fh3 od3 mk3 fb3 kp3 ht3 n3 fbx3 mkH e3 m3 rj lj J eu hM
        go_wp2_with fail
        refine C1.out.mono ?_
        rintro e w4 ⟨rfl, e4⟩
        have E4 := hid e4
        clear e4 C1
        go_wp2
        go_roundw
        case rel => exact ⟨u, tk z3 1, c :: y, false, rfl, by rw [show hasS (tk z3 1) u 0 = -1 from EU.out], hid ⟨NEXT.out.1, NEXT.out.2.1, NEXT.out.2.2.1, NEXT.out.2.2.2.1, NEXT.out.2.2.2.2, E4.out⟩, hid (fun _ q => absurd EU.out q), by show q0 ≤ z3.steps + 1; omega, by show z3.steps + 1 + _ + _ ≤ _; simp only [Bool.false_eq_true, if_false]; show z3.steps + 1 + 32 * ((c :: y).length + 1) + 54 * mks (hasS z3) H ≤ _; omega⟩
        case measure => simp [intOf]; omega
      · rw [eu] at C1
        have hu2 : ((u2 : Int) != -1) = true := by simp
        have C5 := hid (fun w5 (e5 : Ex F w0 w5 pa pm (tk z3 1)) => getT (u : Int) 5 e5 (by show z3.steps + 1 ≤ _; omega))
        rw [show getS (tk z3 1) (u : Int) 5 = hasS z3 u 5 from get_nat (s := z3) (j := 5) (fh3.ln u UH.out) (by decide)] at C5
        rcases mkH with h5 | h5
        · -- a Mark, and that is all
          rw [h5] at C5
          have lu3 : LS z3 u = true := fh3.ln u UH.out
          have SM := hid (fun w5 (e5 : Ex F w0 w5 pa pm (tk z3 2)) => setT (u : Int) 5 1 e5 (by show z3.steps + 2 ≤ _; omega))
          generalize mayS (tk z3 2) (u : Int) 5 = bb at SM
          have hs5 : hasS (setS (tk z3 2) (u : Int) 5 1) = put (hasS z3) u 5 1 := set_has (s := tk z3 2) (j := 5) lu3 (by decide)
          have ms5 := Sm.set (Sm.tk m03.ok 2).ok (u : Int) 5 1
          have GM := hid (mark_gh (s := z3) (s' := setS (tk z3 2) (u : Int) 5 1) (u := u) fh3 od3 (by rw [set_ls]; rfl) hs5 (fun p hp D dn dm j => fb3 (fun d => if d = u then hasS z3 u 4 + 1 else hasS z3 d 4 + hasS z3 d 5) (fun d _ hd => if_neg hd) (by rw [if_pos rfl, h5]; omega) p hp D dn dm j))
          have MM := hid (show mks (hasS (setS (tk z3 2) (u : Int) 5 1)) H = mks (hasS z3) H + 1 by rw [hs5]; exact mark_mks UH.out fh3.nd (by rw [eu]; omega) h5)
          have KM := hid (show Kp s (setS (tk z3 2) (u : Int) 5 1) H from (HP5.out.trans kp3).trans ⟨(Sm.tk m03.ok 2).trans ms5, fun a j hj => by rw [hs5, put_nj (by omega)], fun a ha j => by rw [hs5, put_ne (fun e : a = u => ha (e ▸ UH.out))]⟩)
          have NT := hid (show n ∈ r :: c :: y by
            rcases List.mem_cons.1 HP4.out with q | q
            · simp [q]
            · rcases List.mem_cons.1 q with q | q <;> simp [q])
          have SS := hid (set_steps (tk z3 2) (u : Int) 5 1)
          have hm0 : ((0 : Int) == 0) = true := rfl
          clear cut m03 fh3 od3 mk3 fb3 kp3 ht3 n3 fbx3 e3 m3 rj lj J eu hM ms5 hs5 lu3
          go_wp2_with fail
          refine C1.out.mono ?_
          rintro e w4 ⟨rfl, e4⟩
          have D5 := hid (C5.out w4 e4)
          clear e4 C1 C5
          go_wp2_with fail
          refine D5.out.mono ?_
          rintro e w5 ⟨rfl, e5⟩
          have D6 := hid (SM.out w5 e5)
          clear e5 D5 SM
          go_wp2_with fail
          refine D6.out.mono ?_
          rintro e w6 ⟨rfl, e6⟩
          have E6 := hid e6
          clear e6 D6
          go_wp2
          refine bodyPost_ret (results_none rfl _ _ _) rfl ?_
          exact ⟨rfl, _, c :: y, E6.out, GM.out, NT.out, KM.out, by rw [SS.out, ← HQ0.out]; show q0 ≤ z3.steps + 2 + 1; omega, by rw [SS.out, MM.out]; show z3.steps + 2 + 1 + _ + _ ≤ _; have := HN0.out; omega⟩
        · rw [h5] at C5
          have NEXT := hid (show u ∈ H ∧ Ghx (tk z3 2) H (r :: c :: y) u ∧ (∀ a ∈ H, ∀ p : Nat, hasS (tk z3 2) a 0 = (p : Int) → ht a < ht p) ∧ n ∈ u :: r :: c :: y ∧ Kp s (tk z3 2) H from ⟨UH.out, ⟨fh3, fun d hd _ p hp => od3 d hd p hp, fbx3⟩, ht3, n3, (HP5.out.trans kp3).trans (Kp.tk m03.ok 2 H)⟩)
          have EU := hid eu
          have HM5 := hid h5
          clear cut m03 fh3 od3 mk3 fb3 kp3 ht3 n3 fbx3 e3 m3 rj lj J eu hM h5
          go_wp2_with fail
          refine C1.out.mono ?_
          rintro e w4 ⟨rfl, e4⟩
          have D5 := hid (C5.out w4 e4)
          clear e4 C1 C5
          go_wp2_with fail
          refine D5.out.mono ?_
          rintro e w5 ⟨rfl, e5⟩
          have E5 := hid e5
          clear e5 D5
          go_wp2
          go_roundw
          case rel => exact ⟨u, tk z3 2, c :: y, false, rfl, by rw [show hasS (tk z3 2) u 0 = (u2 : Int) from EU.out], hid ⟨NEXT.out.1, NEXT.out.2.1, NEXT.out.2.2.1, NEXT.out.2.2.2.1, NEXT.out.2.2.2.2, E5.out⟩, hid (fun _ _ => HM5.out), by show q0 ≤ z3.steps + 2; omega, by show z3.steps + 2 + _ + _ ≤ _; simp only [Bool.false_eq_true, if_false]; show z3.steps + 2 + 32 * ((c :: y).length + 1) + 54 * mks (hasS z3) H ≤ _; omega⟩
          case measure => simp [intOf]; omega
end
end Go.Proofs.YtckoglddhkbgkabGreat

/- Two heaps made one, as plain data; a heap of one. -/
namespace Go.Proofs.YtckoglddhkbgkabGreat
open Go.ChangeShapes Go.WideShapes Go.ChangeAt Go.RowKit
open Tr

section
variable {L : Nat → Bool} {f g : Nat → Nat → Int} {H1 H2 x y : List Nat} {r q : Nat}
theorem Fh.live2 (h1 : Fh L f H1 (r :: x)) (h2 : Fh L f H2 (q :: y)) : ∀ a ∈ (r :: x) ++ (q :: y), L a = true := fun a ha =>
  (List.mem_append.1 ha).elim (fun z => h1.ln a ((h1.top.mem a).1 z).1) (fun z => h2.ln a ((h2.top.mem a).1 z).1)
theorem Fh.union (h1 : Fh L f H1 (r :: x)) (h2 : Fh L f H2 (q :: y)) (dj : ∀ c ∈ H1, c ∉ H2) (s12 : ∀ n ∈ H1, ∀ m ∈ H2, itF f n ≠ m) (s21 : ∀ n ∈ H2, ∀ m ∈ H1, itF f n ≠ m) (l : Lnk f g ((r :: x) ++ (q :: y))) (rj : Ring g (r :: q :: (y ++ x))) : Fh L g (H1 ++ H2) (r :: q :: (y ++ x)) := by
  have it : itF g = itF f := by funext a; unfold itF; rw [l.oth a 6 (by decide) (by decide)]
  have e0 : ∀ a, g a 0 = f a 0 := fun a => l.oth a 0 (by decide) (by decide)
  have hm : ∀ c, c ∈ H1 ++ H2 ↔ c ∈ H1 ∨ c ∈ H2 := fun c => List.mem_append
  have pT : (r :: q :: (y ++ x)).Perm ((r :: x) ++ (q :: y)) := by
    show (r :: (q :: y ++ x)).Perm (r :: (x ++ q :: y))
    exact .cons _ List.perm_append_comm
  have kd : ∀ {H H' : List Nat} {p : Nat} {C : List Nat}, Kd f H (p : Int) C → (∀ c ∈ H', f c 0 ≠ (p : Int)) → (∀ c, c ∈ H1 ++ H2 ↔ c ∈ H ∨ c ∈ H') → Kd g (H1 ++ H2) (p : Int) C := fun {H H' p C} k hne hu =>
    ⟨ring_like k.rg fun c hc => by
      have z := ((k.mem c).1 hc).2
      have := l.out c (fun m => by
        rcases List.mem_append.1 m with m | m
        · have := ((h1.top.mem c).1 m).2; omega
        · have := ((h2.top.mem c).1 m).2; omega)
      exact ⟨this.2, this.1⟩, k.nd, fun c => by
      rw [k.mem c, hu c, e0]
      exact ⟨fun z => ⟨Or.inl z.1, z.2⟩, fun z => ⟨z.1.resolve_right fun w => hne c w z.2, z.2⟩⟩⟩
  have up1 : ∀ c ∈ H1, ∀ p ∈ H2, f c 0 ≠ (p : Int) := fun c hc p hp e => by
    rcases h1.up c hc with z | ⟨p', hp', z⟩
    · omega
    · have : p = p' := by omega
      exact dj p' hp' (this ▸ hp)
  have up2 : ∀ c ∈ H2, ∀ p ∈ H1, f c 0 ≠ (p : Int) := fun c hc p hp e => by
    rcases h2.up c hc with z | ⟨p', hp', z⟩
    · omega
    · have : p = p' := by omega
      exact dj p hp (this ▸ hp')
  refine ⟨?_, fun a ha => ((hm a).1 ha).elim (h1.ln a) (h2.ln a), fun a ha => ?_, fun a ha b hb => ?_, fun a ha => ?_, fun a ha => ?_, ⟨rj, ?_, fun c => ?_⟩, fun p hp => ?_, ?_⟩
  · rw [List.nodup_append]
    exact ⟨h1.nd, h2.nd, fun a ha b hb e => dj a ha (e ▸ hb)⟩
  · rw [it, l.oth a 6 (by decide) (by decide), l.oth _ 9 (by decide) (by decide)]
    exact ((hm a).1 ha).elim (h1.it a) (h2.it a)
  · rw [it]
    rcases (hm a).1 ha with z | z <;> rcases (hm b).1 hb with w | w
    · exact h1.sep a z b w
    · exact s12 a z b w
    · exact s21 a z b w
    · exact h2.sep a z b w
  · rw [e0]
    rcases (hm a).1 ha with z | z
    · exact (h1.up a z).imp id fun ⟨p, hp, e⟩ => ⟨p, (hm p).2 (Or.inl hp), e⟩
    · exact (h2.up a z).imp id fun ⟨p, hp, e⟩ => ⟨p, (hm p).2 (Or.inr hp), e⟩
  · rw [l.oth a 5 (by decide) (by decide)]
    exact ((hm a).1 ha).elim (h1.mrk a) (h2.mrk a)
  · rw [pT.nodup_iff, List.nodup_append]
    exact ⟨h1.top.nd, h2.top.nd, fun a ha b hb e => dj a ((h1.top.mem a).1 ha).1 (e ▸ ((h2.top.mem b).1 hb).1)⟩
  · rw [pT.mem_iff, List.mem_append, h1.top.mem c, h2.top.mem c, hm c, e0]
    constructor
    · rintro (⟨z, w⟩ | ⟨z, w⟩)
      · exact ⟨Or.inl z, w⟩
      · exact ⟨Or.inr z, w⟩
    · rintro ⟨z | z, w⟩
      · exact Or.inl ⟨z, w⟩
      · exact Or.inr ⟨z, w⟩
  · rw [l.oth p 1 (by decide) (by decide), l.oth p 4 (by decide) (by decide)]
    rcases (hm p).1 hp with z | z
    · obtain ⟨C, k1, k2, k3⟩ := h1.ch p z
      exact ⟨C, kd k1 (fun c hc => up2 c hc p z) hm, k2, k3⟩
    · obtain ⟨C, k1, k2, k3⟩ := h2.ch p z
      exact ⟨C, kd k1 (fun c hc => up1 c hc p z) (fun c => (hm c).trans or_comm), k2, k3⟩
  · obtain ⟨t1, a1⟩ := h1.ht
    obtain ⟨t2, a2⟩ := h2.ht
    refine ⟨fun a => if a ∈ H1 then t1 a else t2 a, fun c hc p hp => ?_⟩
    rw [e0] at hp
    show (if c ∈ H1 then t1 c else t2 c) < if p ∈ H1 then t1 p else t2 p
    rcases (hm c).1 hc with z | z
    · rcases h1.up c z with w | ⟨p', hp', w⟩
      · omega
      · have : p = p' := by omega
        subst this
        rw [if_pos z, if_pos hp']; exact a1 c z p hp
    · rcases h2.up c z with w | ⟨p', hp', w⟩
      · omega
      · have : p = p' := by omega
        subst this
        rw [if_neg fun v => dj c v z, if_neg fun v => dj p v hp']; exact a2 c z p hp
theorem Od.union (l : Lnk f g ((r :: x) ++ (q :: y))) (o1 : Od f H1) (o2 : Od f H2) : Od g (H1 ++ H2) := by
  have it : itF g = itF f := by funext a; unfold itF; rw [l.oth a 6 (by decide) (by decide)]
  have e : befF g = befF f := by funext a d; unfold befF; rw [l.oth a 7 (by decide) (by decide), l.oth a 8 (by decide) (by decide), l.oth d 7 (by decide) (by decide), l.oth d 8 (by decide) (by decide)]
  intro c hc p hp
  rw [l.oth c 0 (by decide) (by decide)] at hp
  rw [e, it]
  exact (List.mem_append.1 hc).elim (fun z => o1 c z p hp) (fun z => o2 c z p hp)
theorem Fb.union (h1 : Fh L f H1 (r :: x)) (h2 : Fh L f H2 (q :: y)) (dj : ∀ c ∈ H1, c ∉ H2) (l : Lnk f g ((r :: x) ++ (q :: y))) (b1 : Fb f H1) (b2 : Fb f H2) : Fb g (H1 ++ H2) := by
  intro p hp D dn dm j
  rw [show D.countP (fun d => decide (g d 4 + g d 5 < (j : Int))) = D.countP (fun d => decide (f d 4 + f d 5 < (j : Int))) from List.countP_congr fun d _ => by rw [l.oth d 4 (by decide) (by decide), l.oth d 5 (by decide) (by decide)]]
  rcases List.mem_append.1 hp with z | z
  · refine b1 p z D dn (fun d => ?_) j
    rw [dm d, l.oth d 0 (by decide) (by decide), List.mem_append]
    constructor
    · rintro ⟨w | w, e⟩
      · exact ⟨w, e⟩
      · rcases h2.up d w with v | ⟨p', hp', v⟩
        · omega
        · have : p = p' := by omega
          exact absurd (this ▸ hp') (dj p z)
    · rintro ⟨w, e⟩; exact ⟨Or.inl w, e⟩
  · refine b2 p z D dn (fun d => ?_) j
    rw [dm d, l.oth d 0 (by decide) (by decide), List.mem_append]
    constructor
    · rintro ⟨w | w, e⟩
      · rcases h1.up d w with v | ⟨p', hp', v⟩
        · omega
        · have : p = p' := by omega
          exact absurd z (dj p (this ▸ hp'))
      · exact ⟨w, e⟩
    · rintro ⟨w, e⟩; exact ⟨Or.inr w, e⟩
theorem mks_app (f : Nat → Nat → Int) (H1 H2 : List Nat) : mks f (H1 ++ H2) = mks f H1 + mks f H2 := by unfold mks; exact List.countP_append
theorem mks_same {H X : List Nat} (l : Lnk f g X) : mks g H = mks f H := by
  unfold mks
  exact List.countP_congr fun c _ => by rw [l.oth c 0 (by decide) (by decide), l.oth c 5 (by decide) (by decide)]
/-- a heap of one -/
theorem Fh.single {n : Nat} (ln : L n = true) (hi : f n 6 = (itF f n : Int) ∧ L (itF f n) = true ∧ f (itF f n) 9 = (n : Int)) (hne : itF f n ≠ n) (h0 : f n 0 = -1) (h1 : f n 1 = -1) (h4 : f n 4 = 0) (h5 : f n 5 = 0) (r : Ring f [n]) : Fh L f [n] [n] := by
  refine ⟨by simp, fun a ha => ?_, fun a ha => ?_, fun a ha b hb => ?_, fun a ha => ?_, fun a ha => ?_, ⟨r, by simp, fun c => ?_⟩, fun p hp => ?_, ⟨fun _ => 0, fun c hc p hp => ?_⟩⟩
  · simp at ha; rw [ha]; exact ln
  · simp at ha; rw [ha]; exact hi
  · simp at ha hb; rw [ha, hb]; exact hne
  · simp at ha; rw [ha]; exact Or.inl h0
  · simp at ha; rw [ha]; exact Or.inl h5
  · simp only [List.mem_singleton]; exact ⟨fun e => ⟨e, by rw [e]; exact h0⟩, fun e => e.1⟩
  · simp at hp
    subst hp
    refine ⟨[], ⟨trivial, by simp, fun c => ?_⟩, h1, h4⟩
    simp only [List.mem_singleton, List.not_mem_nil, false_iff]
    rintro ⟨e, z⟩
    rw [e, h0] at z; omega
  · simp at hc
    rw [hc, h0] at hp; omega
theorem Od.single {n : Nat} (h0 : f n 0 = -1) : Od f [n] := fun c hc p hp => by simp at hc; rw [hc, h0] at hp; omega
theorem Fb.single {n : Nat} (h0 : f n 0 = -1) : Fb f [n] := fun p hp D dn dm j => by
  have : D = [] := by
    cases D with
    | nil => rfl
    | cons d r =>
      have := (dm d).1 (by simp)
      simp at this
      rw [this.1, h0] at this; omega
  subst this; simp
theorem mks_single {n : Nat} (h0 : f n 0 = -1) : mks f [n] = 0 := by unfold mks; simp [h0]
end
/-- the least of all is the root -/
theorem lto_all {L : Nat → Bool} {f : Nat → Nat → Int} {H x : List Nat} {r : Nat} (h : Fh L f H (r :: x)) (od : Od f H) (l : ∀ c ∈ r :: x, befF f (itF f c) (itF f r) = false) : ∀ c ∈ H, befF f (itF f c) (itF f r) = false := by
  obtain ⟨ht, hh⟩ := h.ht
  have hb : ∃ B, ∀ c ∈ H, ht c ≤ B := by
    have : ∀ l : List Nat, ∃ B, ∀ c ∈ l, ht c ≤ B := by
      intro l
      induction l with
      | nil => exact ⟨0, fun c hc => by cases hc⟩
      | cons a l ih =>
        obtain ⟨B, hB⟩ := ih
        refine ⟨max (ht a) B, fun c hc => ?_⟩
        rcases List.mem_cons.1 hc with e | hc
        · rw [e]; omega
        · have := hB c hc; omega
    exact this H
  obtain ⟨B, hB⟩ := hb
  have go : ∀ k c, c ∈ H → B - ht c ≤ k → befF f (itF f c) (itF f r) = false := by
    intro k
    induction k with
    | zero =>
      intro c hc hk
      rcases h.up c hc with e | ⟨p, hp, e⟩
      · exact l c ((h.top.mem c).2 ⟨hc, e⟩)
      · have := hh c hc p e; have := hB p hp; omega
    | succ k ih =>
      intro c hc hk
      rcases h.up c hc with e | ⟨p, hp, e⟩
      · exact l c ((h.top.mem c).2 ⟨hc, e⟩)
      · have h1 := hh c hc p e
        have h2 := hB p hp
        exact (befF_tot f).le _ _ _ (ih p hp (by omega)) (od c hc p e)
  exact fun c hc => go _ c hc (Nat.le_refl _)
/-- the better of two roots ahead of all -/
theorem lto_two {f : Nat → Nat → Int} {r q : Nat} {x y : List Nat} (l1 : Lto f (r :: x)) (l2 : Lto f (q :: y)) :
    (befF f (itF f q) (itF f r) = true → Lto f (q :: ((y ++ x) ++ [r]))) ∧ (befF f (itF f q) (itF f r) = false → Lto f (r :: q :: (y ++ x))) := by
  have t := befF_tot f
  constructor
  · intro h c hc
    simp only [List.mem_cons, List.mem_append, List.not_mem_nil, or_false] at hc
    rcases hc with e | (hc | hc) | e
    · rw [e]; exact l2 q (by simp)
    · exact l2 c (by simp [hc])
    · exact t.le _ _ _ (t.one _ _ h) (l1 c (by simp [hc]))
    · rw [e]; exact t.one _ _ h
  · intro h c hc
    simp only [List.mem_cons, List.mem_append] at hc
    rcases hc with e | e | hc | hc
    · rw [e]; exact l1 r (by simp)
    · rw [e]; exact h
    · exact t.le _ _ _ h (l2 c (by simp [hc]))
    · exact l1 c (by simp [hc])
end Go.Proofs.YtckoglddhkbgkabGreat

/- The walks of meld, Meld, place, Min, Pop, Cut, Fall. -/
namespace Go.Proofs.YtckoglddhkbgkabGreat
open Go.ChangeShapes Go.WideShapes Go.ChangeAt Go.RowKit
open Tr

/-- a heap, its root the first of its top ones -/
structure Hq (s : St) (H T : List Nat) : Prop where
  gh : Gh s H T
  lto : Lto (hasS s) T
theorem Hq.tk {s : St} {H T : List Nat} (h : Hq s H T) (k : Nat) : Hq (tk s k) H T := ⟨h.gh.tk k, h.lto⟩
theorem fh_top {L : Nat → Bool} {f : Nat → Nat → Int} {H T : List Nat} (h : Fh L f H T) : ∀ c ∈ H, ∃ t, t ∈ T := by
  obtain ⟨ht, hh⟩ := h.ht
  have hb : ∀ l : List Nat, ∃ B, ∀ c ∈ l, ht c ≤ B := by
    intro l
    induction l with
    | nil => exact ⟨0, fun c hc => by cases hc⟩
    | cons a l ih =>
      obtain ⟨B, hB⟩ := ih
      refine ⟨max (ht a) B, fun c hc => ?_⟩
      rcases List.mem_cons.1 hc with e | hc
      · rw [e]; omega
      · have := hB c hc; omega
  obtain ⟨B, hB⟩ := hb H
  have go : ∀ k c, c ∈ H → B - ht c ≤ k → ∃ t, t ∈ T := by
    intro k
    induction k with
    | zero =>
      intro c hc hk
      rcases h.up c hc with e | ⟨p, hp, e⟩
      · exact ⟨c, (h.top.mem c).2 ⟨hc, e⟩⟩
      · have := hh c hc p e; have := hB p hp; omega
    | succ k ih =>
      intro c hc hk
      rcases h.up c hc with e | ⟨p, hp, e⟩
      · exact ⟨c, (h.top.mem c).2 ⟨hc, e⟩⟩
      · have h1 := hh c hc p e
        have h2 := hB p hp
        exact ih p hp (by omega)
  exact fun c hc => go _ c hc (Nat.le_refl _)
theorem fh_nil {L : Nat → Bool} {f : Nat → Nat → Int} {H T : List Nat} (h : Fh L f H T) : T = [] ↔ H = [] := by
  constructor
  · intro e
    cases H with
    | nil => rfl
    | cons c r =>
      obtain ⟨t, ht⟩ := fh_top h c (by simp)
      rw [e] at ht; cases ht
  · intro e
    cases T with
    | nil => rfl
    | cons c r =>
      have := ((h.top.mem c).1 (by simp)).1
      rw [e] at this; cases this
theorem froot {s : St} {H T : List Nat} (h : Fh (LS s) (hasS s) H T) (ok : Ok s) : rootS s (hdL T) = hdL T := by
  cases T with
  | nil => exact root_none
  | cons r x =>
    obtain ⟨rH, r0⟩ := (h.top.mem r).1 (by simp)
    obtain ⟨i1, i2, i3⟩ := h.it r rH
    show rootS s (r : Int) = (r : Int)
    unfold rootS
    rw [h.item ok rH, show cellS s (r : Int) 0 = -1 from cell_neg (j := 0) (h.ln r rH) (by decide) r0, show cellS s (itF (hasS s) r : Int) 9 = (r : Int) from cell_nat (j := 9) ok i2 (by decide) i3 (h.ln r rH)]
    exact if_pos ⟨rfl, rfl⟩
theorem Lto.like {f g : Nat → Nat → Int} {T : List Nat} (h : Lto f T) (it : itF g = itF f) (e : befF g = befF f) : Lto g T := by
  cases T with
  | nil => trivial
  | cons r x => intro c hc; rw [it, e]; exact h c hc
theorem Lnk.it {f g : Nat → Nat → Int} {X : List Nat} (l : Lnk f g X) : itF g = itF f ∧ befF g = befF f :=
  ⟨by funext a; unfold itF; rw [l.oth a 6 (by decide) (by decide)], by funext a d; unfold befF; rw [l.oth a 7 (by decide) (by decide), l.oth a 8 (by decide) (by decide), l.oth d 7 (by decide) (by decide), l.oth d 8 (by decide) (by decide)]⟩
theorem Kp.it {s s' : St} {H : List Nat} (k : Kp s s' H) : itF (hasS s') = itF (hasS s) ∧ befF (hasS s') = befF (hasS s) :=
  ⟨by funext a; unfold itF; rw [k.key a 6 (by decide)], by funext a d; unfold befF; rw [k.key a 7 (by decide), k.key a 8 (by decide), k.key d 7 (by decide), k.key d 8 (by decide)]⟩
/-- what a meld leaves -/
structure Mld (s s' : St) (H1 H2 T1 T2 T' : List Nat) : Prop where
  hq : Hq s' (H1 ++ H2) T'
  kp : Kp s s' (H1 ++ H2)
  len : T'.length = T1.length + T2.length
  mrk : mks (hasS s') (H1 ++ H2) = mks (hasS s) H1 + mks (hasS s) H2
section
variable {F : Nat → Prop} {w0 w w' : World} {pa pm : Nat} {s : St} {H H1 H2 T T1 T2 : List Nat}
set_option maxHeartbeats 1000000 in
theorem fmeldT (h1 : Hq s H1 T1) (h2 : Hq s H2 T2) (dj : ∀ c ∈ H1, c ∉ H2) (s12 : ∀ n ∈ H1, ∀ m ∈ H2, itF (hasS s) n ≠ m) (s21 : ∀ n ∈ H2, ∀ m ∈ H1, itF (hasS s) n ≠ m) (ok : Ok s) (h : Ex F w0 w pa pm s) (hs : s.steps ≤ 99998000) :
    Calls Tryz.prog 42 #[.pointer (some ⟨pa, 0, none⟩), .int .i64 (hdL T1), .int .i64 (hdL T2)] w fun e w' =>
      ∃ (s' : St) (T' : List Nat), e = .returned (.int .i64 (hdL T')) ∧ Ex F w0 w' pa pm s' ∧ Mld s s' H1 H2 T1 T2 T' ∧ s.steps ≤ s'.steps ∧ s'.steps ≤ s.steps + 14 := by
  cases T1 with
  | nil =>
    have e1 := (fh_nil h1.gh.fh).1 rfl
    subst e1
    have M := hid (show Mld s s [] H2 [] T2 T2 from ⟨h2, Kp.refl ok _, by simp, by simp [mks]⟩)
    have E := hid h
    have FT := hid (fun w => firstT_l (pa := pa) (hdL T2) w)
    rw [show hdL [] = -1 from rfl]
    clear h1 h2 dj s12 s21 ok h
    generalize hq : hdL T2 = d at *
    have HQ := hid hq
    clear hq
    go_enter Tryz.func42, Tryz.ntmps42
    go_wp2_with fail
    refine (FT.out _).mono ?_
    rintro e w1 ⟨rfl, rfl⟩
    clear FT
    go_wp2
    go_ret
    exact ⟨s, T2, by rw [HQ.out]; rfl, E.out, M.out, Nat.le_refl _, by omega⟩
  | cons r x =>
    cases T2 with
    | nil =>
      have e2 := (fh_nil h2.gh.fh).1 rfl
      subst e2
      have M := hid (show Mld s s H1 [] (r :: x) [] (r :: x) from ⟨by rw [List.append_nil]; exact h1, Kp.refl ok _, by simp, by simp [mks]⟩)
      have E := hid h
      have FT := hid (fun w => firstT_r (pa := pa) r w)
      have hr1 : ((r : Int) != -1) = true := by simp
      rw [show hdL [] = -1 from rfl, show hdL (r :: x) = (r : Int) from rfl]
      clear h1 h2 dj s12 s21 ok h
      go_enter Tryz.func42, Tryz.ntmps42
      go_wp2_with fail
      refine (FT.out _).mono ?_
      rintro e w1 ⟨rfl, rfl⟩
      clear FT
      go_wp2
      go_ret
      exact ⟨s, r :: x, rfl, E.out, M.out, Nat.le_refl _, by omega⟩
    | cons q y =>
      have rH := ((h1.gh.fh.top.mem r).1 (by simp)).1
      have qH := ((h2.gh.fh.top.mem q).1 (by simp)).1
      have hne : r ≠ q := fun e => dj r rH (e ▸ qH)
      have hrq : ((r : Int) != (q : Int)) = true := by simp; omega
      have hr1 : ((r : Int) != -1) = true := by simp
      have hq1 : ((q : Int) != -1) = true := by simp
      have J := hid (rjoinT r x q y h1.gh.fh.top.rg h2.gh.fh.top.rg (by
        rw [List.nodup_append]
        exact ⟨h1.gh.fh.top.nd, h2.gh.fh.top.nd, fun a ha b hb e => dj a ((h1.gh.fh.top.mem a).1 ha).1 (e ▸ ((h2.gh.fh.top.mem b).1 hb).1)⟩) (h1.gh.fh.live2 h2.gh.fh) ok h (by omega))
      have H1' := hid h1
      have H2' := hid h2
      have DJ := hid dj
      have S12 := hid s12
      have S21 := hid s21
      have RH := hid rH
      have QH := hid qH
      have sub : ∀ a ∈ (r :: x) ++ (q :: y), a ∈ H1 ++ H2 := fun a ha => (List.mem_append.1 ha).elim (fun z => List.mem_append_left _ ((h1.gh.fh.top.mem a).1 z).1) (fun z => List.mem_append_right _ ((h2.gh.fh.top.mem a).1 z).1)
      have SUB := hid sub
      rw [show hdL (r :: x) = (r : Int) from rfl, show hdL (q :: y) = (q : Int) from rfl]
      clear h1 h2 dj s12 s21 ok h rH qH hne sub
      go_enter Tryz.func42, Tryz.ntmps42
      go_wp2_with fail
      refine J.out.mono ?_
      rintro e w1 ⟨rfl, s1, e1, m1, st1, rj, l⟩
      have fu : Fh (LS s1) (hasS s1) (H1 ++ H2) (r :: q :: (y ++ x)) := by rw [m1.ls]; exact H1'.out.gh.fh.union H2'.out.gh.fh DJ.out S12.out S21.out l rj
      have gu : Gh s1 (H1 ++ H2) (r :: q :: (y ++ x)) := ⟨fu, Od.union l H1'.out.gh.od H2'.out.gh.od, Fb.union H1'.out.gh.fh H2'.out.gh.fh DJ.out l H1'.out.gh.fb H2'.out.gh.fb⟩
      have kp : Kp s s1 (H1 ++ H2) := ⟨m1, fun a j hj => l.oth a j (by omega) (by omega), fun a ha j => by
        have ao := l.out a (fun z => ha (SUB.out a z))
        by_cases h2 : j = 2
        · subst h2; exact ao.1
        · by_cases h3 : j = 3
          · subst h3; exact ao.2
          · exact l.oth a j h2 h3⟩
      have mk : mks (hasS s1) (H1 ++ H2) = mks (hasS s) H1 + mks (hasS s) H2 := by rw [mks_same l, mks_app]
      have FT := hid (firstT (H := H1 ++ H2) (s := s1) r q (List.mem_append_left _ RH.out) (List.mem_append_right _ QH.out) fu m1.ok e1 (by omega))
      obtain ⟨lt1, lt2⟩ := lto_two (f := hasS s1) (H1'.out.lto.like l.it.1 l.it.2) (H2'.out.lto.like l.it.1 l.it.2)
      have RES := hid (show ∃ T', (if befF (hasS s1) (itF (hasS s1) q) (itF (hasS s1) r) = true then (q : Int) else (r : Int)) = hdL T' ∧ Hq s1 (H1 ++ H2) T' ∧ T'.length = (r :: x).length + (q :: y).length from by
        cases z : befF (hasS s1) (itF (hasS s1) q) (itF (hasS s1) r) with
        | true => exact ⟨q :: ((y ++ x) ++ [r]), rfl, ⟨gu.rot (x := [r]) (y := q :: (y ++ x)), lt1 z⟩, by simp; omega⟩
        | false => exact ⟨r :: q :: (y ++ x), rfl, ⟨gu, lt2 z⟩, by simp; omega⟩)
      obtain ⟨T', z1, z2, z3⟩ := RES.out
      rw [z1] at FT
      have M := hid (show Mld s (tk s1 6) H1 H2 (r :: x) (q :: y) T' from ⟨z2.tk 6, kp.trans (Kp.tk m1.ok 6 _), z3, mk⟩)
      have ST := hid st1
      clear e1 m1 st1 rj l fu gu kp mk lt1 lt2 RES z1 z2 z3 J
      generalize hq : hdL T' = d at *
      have HQ := hid hq
      clear hq
      go_wp2_with fail
      refine FT.out.mono ?_
      rintro e w2 ⟨rfl, e2⟩
      have E2 := hid e2
      clear FT e2
      go_wp2
      go_ret
      exact ⟨tk s1 6, T', by rw [HQ.out]; rfl, E2.out, M.out, by show _ ≤ s1.steps + 6; have := ST.out; omega, by show s1.steps + 6 ≤ _; have := ST.out; omega⟩
/-- Min -/
theorem fminT (h : Hq s H T) (ok : Ok s) (e : Ex F w0 w pa pm s) (hs : s.steps ≤ 99998000) :
    Calls Tryz.prog 9 #[.pointer (some ⟨pa, 0, none⟩), .int .i64 (hdL T)] w fun e w' =>
      ∃ m, e = .returned (.int .i64 m) ∧ (T = [] → m = -1) ∧ (∀ r x, T = r :: x → m = (itF (hasS s) r : Int)) ∧ ∃ k, k ≤ 4 ∧ Ex F w0 w' pa pm (tk s k) := by
  have R := hid (rootT (hdL T) e (by omega))
  rw [froot h.gh.fh ok] at R
  obtain ⟨m, hm⟩ : ∃ m, m = cellS s (hdL T) 6 := ⟨_, rfl⟩
  have C := hid (fun (k : Nat) w1 (hk : k ≤ 3) (e : Ex F w0 w1 pa pm (tk s k)) => cellT (s := tk s k) (hdL T) 6 e (by show s.steps + k ≤ _; omega))
  have e6 : ∀ k, cellS (tk s k) (hdL T) 6 = m := fun k => hm.symm
  have V := hid (show (T = [] → m = -1) ∧ (∀ r x, T = r :: x → m = (itF (hasS s) r : Int)) from
    ⟨fun e => by rw [hm, e]; exact cell_none, fun r x e => by
      have rH : r ∈ H := ((h.gh.fh.top.mem r).1 (by rw [e]; simp)).1
      rw [hm, e]
      exact h.gh.fh.item ok rH⟩)
  have E6 := hid e6
  clear h ok e hm e6
  generalize hdL T = d at *
  go_enter Tryz.func9, Tryz.ntmps9
  go_wp2_with fail
  refine R.out.mono ?_
  rintro e w1 ⟨rfl, k1, hk1, e1⟩
  have D := hid (C.out k1 w1 hk1 e1)
  rw [E6.out k1] at D
  clear R C e1
  go_wp2_with fail
  refine D.out.mono ?_
  rintro e w2 ⟨rfl, e2⟩
  have E2 := hid (show Ex F w0 w2 pa pm (tk s (k1 + 1)) by rw [← tk_tk]; exact e2)
  clear D e2
  go_wp2
  go_ret
  exact ⟨m, rfl, V.out.1, V.out.2, k1 + 1, by omega, E2.out⟩
end
end Go.Proofs.YtckoglddhkbgkabGreat
