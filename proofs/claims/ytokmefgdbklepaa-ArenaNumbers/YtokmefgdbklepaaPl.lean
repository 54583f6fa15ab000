/- The walk of play: an arena beside the document's. -/
import Derived.Test.YtokmefgdbklepaaTwo
import Derived.Deep.DeepCutAuto
import Derived.Deep.CutBlock
namespace Go.Proofs.Ytokmefgdbklepaa
open Go.ChangeShapes Go.WideShapes Go.ChangeAt Go.RowKit

theorem give_steps (s : St) (c : Int) : (giveS s c).steps = s.steps + 1 := by unfold giveS; split <;> rfl
theorem set_steps (s : St) (c f v : Int) : (setS s c f v).steps = s.steps + 1 := by unfold setS; split <;> rfl
theorem take_steps (s : St) : (takeS s).steps = s.steps + 1 := by
  unfold takeS
  split
  · rfl
  · split <;> rfl

set_option maxRecDepth 100000 in
set_option maxHeartbeats 4000000 in
theorem play_walk (p : Int) (a : Option Addr) (cap : Nat) (l : List Ask) (w : World) (hC : Came w a 4 ask4 l) :
    Calls Try.prog 7 #[.int .i64 p, .slice a l.length cap] w fun e w' => e = .returned (.bool true) ∧ Below w.heap.size w w' := by
  have HC := hid hC
  clear hC
  go_enter Try.func7, Try.ntmps7
  go_wp2_with fail
  refine (newA p w).mono ?_
  rintro e w1 ⟨F, pa, pm, rfl, h1, n1, b1⟩
  have H1 := hid h1
  have N1 := hid n1
  have B1 := hid b1
  clear h1 n1 b1
  go_wp2_with fail
  refine (newR p w1).mono ?_
  rintro e w2 ⟨G, pr, rfl, h2, n2, b2⟩
  have T2 : Two w w2 F G pa pm pr (st0 p) (st0 p) := ⟨H1.out.kept (Kept.of_below (F := fun _ => False) b2) (fun _ _ e => e), h2, fun k hf hg => by have := H1.out.lt k hf; have := n2 k hg; omega, N1.out, fun k hg => Nat.le_trans B1.out.size (n2 k hg), B1.out.trans (b2.mono B1.out.size)⟩
  have TT2 := hid T2
  have m0 := T2.hr.steps.2.2.2
  have hp2 := T2.hr.steps.1
  have A1 := hid (fun n => meterQ pa pm _ F (w2.drewN n) (TT2.out.drewN n).ha)
  have A2 := hid (fun n => cellsQ pa pm _ F (w2.drewN n) (TT2.out.drewN n).ha)
  clear h2 n2 b2 T2 H1 N1 B1
  go_wp2_with fail
  go_quiet (first
    | (go_at_call 19; refine Calls.quiet_of (A1.out _))
    | (go_at_call 9; refine Calls.quiet_of (A2.out _)))
  have T3 := hid (TT2.out.drewN nq)
  clear TT2 A1 A2 m0 hp2
  generalize w2.drewN nq = w3 at *
  go_wp2_with fail
  go_loopw [7] (fun iv wr => ∃ (i : Nat) (F G : Nat → Prop) (s : St), iv = .int .i64 i ∧ i ≤ 120 ∧ s.steps ≤ i ∧ Two w wr F G pa pm pr s s) (fun i _ => 120 - (intOf i).toNat)
  case atStart => exact ⟨0, F, G, _, rfl, by decide, Nat.le_refl _, T3.out⟩
  case round =>
    clear T3 F G
    obtain ⟨i, F, G, s, rfl, hi, hst, hT⟩ := hrel
    have TT := hid hT
    clear hT
    rcases (by omega : (i < l.length ∧ i < 120) ∨ ((l.length ≤ i) ∨ (i < l.length ∧ 120 ≤ i))) with hh | hh
    · obtain ⟨hh1, hh2⟩ := hh
      have hx : l[i]? = some l[i] := List.getElem?_eq_getElem hh1
      obtain ⟨b0, off, ee, hb0, hc0⟩ := HC.out.get TT.out.bel hx
      subst ee
      generalize l[i] = y at hx hc0
      obtain ⟨kd, qc, qf, qv⟩ := y
      have d0 : wr.cell? ⟨b0, off + i * 4, none⟩ = some (.int .i64 kd) := by simpa [ask4] using hc0 0 (by decide)
      have d1 : wr.cell? ⟨b0, off + i * 4 + 1, none⟩ = some (.int .i64 qc) := by simpa [ask4, Nat.add_assoc] using hc0 1 (by decide)
      have d2 : wr.cell? ⟨b0, off + i * 4 + 2, none⟩ = some (.int .i64 qf) := by simpa [ask4, Nat.add_assoc] using hc0 2 (by decide)
      have d3 : wr.cell? ⟨b0, off + i * 4 + 3, none⟩ = some (.int .i64 qv) := by simpa [ask4, Nat.add_assoc] using hc0 3 (by decide)
      have hbr : b0 < wr.heap.size := Nat.lt_of_lt_of_le hb0 TT.out.bel.size
      have hh1' : (i : Int) < (l.length : Int) := by omega
      have hh2' : (i : Int) < 120 := by omega
      obtain ⟨wq, hwq⟩ : ∃ wq, wq = wr := ⟨wr, rfl⟩
      subst hwq
      clear hx hc0 hh1
      go_upto_region 7 with fail
      go_quiet (fail)
      have TQ := hid (TT.out.drewN nq)
      replace d0 : (wq.drewN nq).cell? ⟨b0, off + i * 4, none⟩ = some (.int .i64 kd) := d0
      replace hbr : b0 < (wq.drewN nq).heap.size := hbr
      clear d1 d2 d3 TT
      generalize wq.drewN nq = w4 at *
      obtain ⟨ta, hta⟩ : ∃ t : Int, qv.tmod 3 = t := ⟨_, rfl⟩
      obtain ⟨tb, htb⟩ : ∃ t : Int, qv.tmod 12 = t := ⟨_, rfl⟩
      have ha1 : -3 < ta ∧ ta < 3 := by rw [← hta]; exact tmod_bounds qv (by decide)
      have hb1 : -12 < tb ∧ tb < 12 := by rw [← htb]; exact tmod_bounds qv (by decide)
      obtain ⟨ha1, ha2⟩ := ha1
      obtain ⟨hb1, hb2⟩ := hb1
      go_upto_region 8 with fail
      go_cut [65] from 63 to 64 (fun v wx => ∃ b, v = .bool b ∧ wx = w4)
      case first =>
        go_wp2_with fail
        go_meet
        case rel => exact ⟨_, rfl, rfl⟩
      case rest =>
      obtain ⟨b, rfl, rfl⟩ := hcut
      go_upto_if 65 with fail
      go_cut [10] from 66 to 67 (fun v wx => ∃ q : Int, v = .int .i64 q ∧ wx = wc)
      case first =>
        cases b
        all_goals
          go_wp2_with fail
          go_meet
          case rel => exact ⟨_, rfl, rfl⟩
      case rest =>
      obtain ⟨qw, rfl, rfl⟩ := hcut
      clear hta htb ha1 ha2 hb1 hb2
      go_upto_block 2 with fail
      go_cut [11, 12, 13, 14, 15] from 38 to 137 (fun ov _ _ _ _ wx => ov = .bool true ∧ ∃ (F4 G4 : Nat → Prop) (s4 : St), s4.steps ≤ i + 1 ∧ Two w wx F4 G4 pa pm pr s4 s4)
      case first =>
        rcases (by omega : kd = 2 ∨ kd = 3 ∨ kd = 4 ∨ kd = 5 ∨ kd = 6 ∨ kd = 7 ∨ (kd ≠ 2 ∧ kd ≠ 3 ∧ kd ≠ 4 ∧ kd ≠ 5 ∧ kd ≠ 6 ∧ kd ≠ 7)) with hk | hk | hk | hk | hk | hk | hk
        · as_aux_lemma =>
            subst hk
            go_wp2_with fail
            refine (giveA pa pm s F qc wc TQ.out.ha (by omega)).mono ?_
            rintro e w5 ⟨rfl, h5, k5⟩
            have T5 := hid (TQ.out.acall h5 k5)
            generalize Grow F wc w5 = F5 at T5
            clear h5 k5
            go_wp2_with fail
            refine (giveR pr s G qc w5 T5.out.hr (by omega)).mono ?_
            rintro e w6 ⟨rfl, h6, k6⟩
            have T6 := hid (T5.out.rcall h6 k6)
            generalize Grow G w5 w6 = G6 at T6
            clear h6 k6 T5
            generalize liveS s qc = bb
            go_wp2_with fail
            go_meet
            case rel => exact ⟨by simp, F5, G6, _, by rw [give_steps]; omega, T6.out⟩
        · as_aux_lemma =>
            subst hk
            go_wp2_with fail
            refine (setA pa pm s F qc qf qw wc TQ.out.ha (by omega)).mono ?_
            rintro e w5 ⟨rfl, h5, k5⟩
            have T5 := hid (TQ.out.astay h5 k5)
            clear h5 k5
            go_wp2_with fail
            refine (setR pr s G qc qf qw w5 T5.out.hr (by omega)).mono ?_
            rintro e w6 ⟨rfl, h6, k6⟩
            have T6 := hid (T5.out.rstay h6 k6)
            clear h6 k6 T5
            generalize mayS s qc qf = bb
            go_wp2_with fail
            go_meet
            case rel => exact ⟨by simp, F, G, _, by rw [set_steps]; omega, T6.out⟩
        · as_aux_lemma =>
            subst hk
            go_wp2_with fail
            refine (setA pa pm s F qc qf qw wc TQ.out.ha (by omega)).mono ?_
            rintro e w5 ⟨rfl, h5, k5⟩
            have T5 := hid (TQ.out.astay h5 k5)
            clear h5 k5
            go_wp2_with fail
            refine (setR pr s G qc qf qw w5 T5.out.hr (by omega)).mono ?_
            rintro e w6 ⟨rfl, h6, k6⟩
            have T6 := hid (T5.out.rstay h6 k6)
            clear h6 k6 T5
            generalize mayS s qc qf = bb
            go_wp2_with fail
            go_meet
            case rel => exact ⟨by simp, F, G, _, by rw [set_steps]; omega, T6.out⟩
        · as_aux_lemma =>
            subst hk
            go_wp2_with fail
            refine (getA pa pm s F qc qf wc TQ.out.ha (by omega)).mono ?_
            rintro e w5 ⟨rfl, h5, k5⟩
            have T5 := hid (TQ.out.astay h5 k5)
            clear h5 k5
            go_wp2_with fail
            refine (getR pr s G qc qf w5 T5.out.hr (by omega)).mono ?_
            rintro e w6 ⟨rfl, h6, k6⟩
            have T6 := hid (T5.out.rstay h6 k6)
            clear h6 k6 T5
            generalize getS s qc qf = bb
            go_wp2_with fail
            go_meet
            case rel => exact ⟨by simp, F, G, _, by show s.steps + 1 ≤ _; omega, T6.out⟩
        · as_aux_lemma =>
            subst hk
            go_wp2_with fail
            refine (getA pa pm s F qc qf wc TQ.out.ha (by omega)).mono ?_
            rintro e w5 ⟨rfl, h5, k5⟩
            have T5 := hid (TQ.out.astay h5 k5)
            clear h5 k5
            go_wp2_with fail
            refine (getR pr s G qc qf w5 T5.out.hr (by omega)).mono ?_
            rintro e w6 ⟨rfl, h6, k6⟩
            have T6 := hid (T5.out.rstay h6 k6)
            clear h6 k6 T5
            generalize getS s qc qf = bb
            go_wp2_with fail
            go_meet
            case rel => exact ⟨by simp, F, G, _, by show s.steps + 1 ≤ _; omega, T6.out⟩
        · as_aux_lemma =>
            subst hk
            go_wp2_with fail
            refine (cellA pa pm s F qc qf wc TQ.out.ha (by omega)).mono ?_
            rintro e w5 ⟨rfl, h5, k5⟩
            have T5 := hid (TQ.out.astay h5 k5)
            clear h5 k5
            go_wp2_with fail
            refine (cellR pr s G qc qf w5 T5.out.hr (by omega)).mono ?_
            rintro e w6 ⟨rfl, h6, k6⟩
            have T6 := hid (T5.out.rstay h6 k6)
            clear h6 k6 T5
            generalize cellS s qc qf = bb
            go_wp2_with fail
            go_meet
            case rel => exact ⟨by simp, F, G, _, by show s.steps + 1 ≤ _; omega, T6.out⟩
        · as_aux_lemma =>
            obtain ⟨z2, z3, z4, z5, z6, z7⟩ := hk
            go_wp2_with fail
            refine (takeA pa pm s F wc TQ.out.ha (by omega)).mono ?_
            rintro e w5 ⟨rfl, h5, k5⟩
            have T5 := hid (TQ.out.acall h5 k5)
            generalize Grow F wc w5 = F5 at T5
            clear h5 k5
            go_wp2_with fail
            refine (takeR pr s G w5 T5.out.hr (by omega)).mono ?_
            rintro e w6 ⟨rfl, h6, k6⟩
            have T6 := hid (T5.out.rcall h6 k6)
            generalize Grow G w5 w6 = G6 at T6
            clear h6 k6 T5
            generalize nextS s = nx
            go_wp2_with fail
            all_goals
              go_meet
              case rel => exact ⟨by simp, F5, G6, _, by rw [take_steps]; omega, T6.out⟩
      case rest =>
        as_aux_lemma =>
          obtain ⟨rfl, F4, G4, s4, hs4, hT4⟩ := hcut
          have T4 := hid hT4
          clear hT4 TQ d0
          have m4 := T4.out.hr.steps.2.1
          have hp4 := T4.out.hr.steps.1
          have A18 := hid (fun n => lenA pa pm s4 F4 (wc.drewN n) (T4.out.drewN n).ha)
          have A28 := hid (fun n => lenQR pr s4 G4 (wc.drewN n) (T4.out.drewN n).hr)
          have A17 := hid (fun n => liveQA pa pm s4 F4 qc (wc.drewN n) (T4.out.drewN n).ha)
          have A29 := hid (fun n => liveQR pr s4 G4 qc (wc.drewN n) (T4.out.drewN n).hr)
          have A19 := hid (fun n => meterQ pa pm s4 F4 (wc.drewN n) (T4.out.drewN n).ha)
          have A20 := hid (fun n => stepsQ pa pm s4 F4 (wc.drewN n) (T4.out.drewN n).ha)
          generalize cnt s4.pl = cn at A18 A28
          generalize liveS s4 qc = bb at A17 A29
          go_wp2_with fail
          go_quiet (first
            | (go_at_call 18; refine Calls.quiet_of (A18.out _))
            | (go_at_call 28; refine Calls.quiet_of (A28.out _))
            | (go_at_call 17; refine Calls.quiet_of (A17.out _))
            | (go_at_call 29; refine Calls.quiet_of (A29.out _))
            | (go_at_call 19; refine Calls.quiet_of (A19.out _))
            | (go_at_call 20; refine Calls.quiet_of (A20.out _)))
          clear A18 A28 A17 A29 A19 A20 m4
          go_wp2
          go_roundw
          case rel => exact ⟨i + 1, F4, G4, s4, by go_num, by omega, hs4, T4.out.drewN _⟩
          case measure => simp [intOf]; omega
    · have hdone : ¬ i < l.length ∨ (i < l.length ∧ ¬ i < 120) := by
        rcases hh with hh | ⟨hh, hh'⟩
        · exact Or.inl (by omega)
        · exact Or.inr ⟨hh, by omega⟩
      clear hh
      obtain ⟨wq, hwq⟩ : ∃ wq, wq = wr := ⟨wr, rfl⟩
      subst hwq
      rcases hdone with c1 | ⟨c1, c2⟩
      all_goals
        go_wp2_with fail
        go_loopw [16] (fun cv wr => ∃ (c : Int) (s : St), cv = .int .i64 c ∧ -1 ≤ c ∧ c ≤ 12 ∧ (s.steps : Int) ≤ 120 + 12 * (c + 1) ∧ Two w wr F G pa pm pr s s) (fun c _ => (12 - intOf c).toNat)
        case atStart => exact ⟨-1, s, rfl, by decide, by decide, by omega, TT.out⟩
        case round =>
          clear TT
          obtain ⟨c, s5, rfl, hc1, hc2, hs5, hT5⟩ := hrel
          have T5 := hid hT5
          clear hT5
          by_cases hc : c < 12
          · go_wp2_with fail
            go_loopw [17] (fun fv wr => ∃ (f : Int) (s : St), fv = .int .i64 f ∧ -1 ≤ f ∧ f ≤ 11 ∧ (s.steps : Int) ≤ 120 + 12 * (c + 1) + (f + 1) ∧ Two w wr F G pa pm pr s s) (fun f _ => (11 - intOf f).toNat)
            case atStart => exact ⟨-1, s5, rfl, by decide, by decide, by omega, T5.out⟩
            case round =>
              clear T5
              obtain ⟨f, s6, rfl, hf1, hf2, hs6, hT6⟩ := hrel
              have T6 := hid hT6
              clear hT6
              by_cases hf : f < 11
              · go_wp2_with fail
                refine (getA pa pm s6 F c f _ T6.out.ha (by omega)).mono ?_
                rintro e w7 ⟨rfl, h7, k7⟩
                have T7 := hid (T6.out.astay h7 k7)
                clear h7 k7 T6
                go_wp2_with fail
                refine (getR pr s6 G c f w7 T7.out.hr (by omega)).mono ?_
                rintro e w8 ⟨rfl, h8, k8⟩
                have T8 := hid (T7.out.rstay h8 k8)
                clear h8 k8 T7
                generalize getS s6 c f = gv
                go_wp2
                go_roundw
                case rel => exact ⟨f + 1, tick s6, by go_num, by omega, by omega, by show ((s6.steps + 1 : Nat) : Int) ≤ _; omega, T8.out⟩
                case measure => simp [intOf]; omega
              · obtain rfl : f = 11 := by omega
                go_wp2
                go_roundw
                case rel => exact ⟨c + 1, s6, by go_num, by omega, by omega, by omega, T6.out⟩
                case measure => simp [intOf]; omega
          · go_wp2
            go_ret
            exact ⟨rfl, T5.out.bel⟩
end Go.Proofs.Ytokmefgdbklepaa
