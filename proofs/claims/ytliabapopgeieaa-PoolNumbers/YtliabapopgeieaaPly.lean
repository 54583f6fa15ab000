/- The walk of the laws' play: the pool beside the document's pool, call by call. -/
import Derived.Test.YtliabapopgeieaaPl1
import Derived.Deep.DeepCutAuto
namespace Go.Proofs.Ytliabapopgeieaa
open Go.ChangeShapes Go.WideShapes Go.ChangeAt Go.RowKit

set_option maxRecDepth 4000 in
set_option maxHeartbeats 16000000 in
theorem play_walk (p : Int) (a : Option Addr) (cap : Nat) (l : List Ask) (_hl : l.length ≤ maxLen) (hI : ∀ x ∈ l, askI x) (w : World) (hC : Came w a 5 ask5 l) :
    Calls Try.prog 7 #[.int .i64 p, .slice a l.length cap] w fun e w' => e = .returned (.bool true) ∧ Below w.heap.size w w' := by
  unfold maxLen at _hl
  have HC := hid hC
  have HI := hid hI
  clear hC hI
  go_enter Try.func7, Try.ntmps7
  go_wp2_with fail
  refine (newIH p w).mono ?_
  rintro e w1 ⟨F, pa, rfl, h1⟩
  have H1 := hid h1
  clear h1
  go_wp2_with fail
  refine (newR p w1).mono ?_
  rintro e w2 ⟨G, ma, rfl, h2, h3, h4⟩
  have hp2 := H1.out.plain (Kept.of_below h4)
  obtain ⟨uv, bv, hr1, -⟩ := hp2.is
  obtain ⟨gv, iv, vv, bv2, hr2, -⟩ := id h2
  obtain ⟨hpl, p0, -, -⟩ := hr1.cells
  obtain ⟨hml, m0, -, -, -, -⟩ := hr2.cells
  simp only [] at p0 m0
  have hF1 := H1.out.is.lt
  have Q2 := hid (show HoldI w w2 F pa ⟨most0 p, [], []⟩ ∧ IsR w2 G ma ⟨most0 p, [], []⟩ ∧ (∀ k, G k → w.heap.size ≤ k) ∧ (∀ k, F k → ¬ G k) from ⟨hp2, h2, fun k q => Nat.le_trans H1.out.bel.size (h3 k q), fun k q e => by have := hF1 k q; have := h3 k e; omega⟩)
  have hne : ((most0 p : Int) != (most0 p : Int)) = false := by simp
  clear h2 h3 h4 hp2 hr1 hr2 hF1 H1
  go_wp2_with fail
  go_quiet (first | (go_at_call 9; refine Calls.quiet_of_same (placesI pa ⟨most0 p, [], []⟩ _ (by simpa [go_sem] using p0))))
  go_wp2
  go_loopw [7, 8] (fun tv iv wr => ∃ (i : Nat) (F G : Nat → Prop) (s t : St Int) (told : List (Nat × Nat)), iv = .int .i64 i ∧ i ≤ 80 ∧ Rel s t i ∧ 0 < told.length ∧ told.length ≤ i + 1 ∧ PlayAt w wr pa ma F G s t tv told) (fun _ i _ => 80 - (intOf i).toNat)
  case atStart =>
    obtain ⟨q1, q2, q3, q4⟩ := Q2.out
    have kk : Kept (fun _ => False) w2 ((w2.drewN nq).alloc (.cells #[.int .i64 0, .int .i64 0] 25)) := ((Kept.refl _ _).drewN nq).alloc _
    refine ⟨0, F, G, _, _, [(0, 0)], rfl, by decide, Rel.start _, by decide, by decide, q1.plain kk, q2.kept kk (fun _ _ e => e), q3, q4, ?_, fun k hk => ?_⟩
    · exact World.ownsRow_lit (base := 0) (e := 25) (size := 2) (w2.drewN nq) #[.int .i64 0, .int .i64 0] 1 (Nat.zero_le _) (by decide) rfl
    · cases hk
      exact ⟨fun e => e.elim (fun e => Nat.lt_irrefl _ (q1.is.lt _ e)) (fun e => Nat.lt_irrefl _ (q2.lt _ e)), q1.bel.size⟩
  case round =>
    clear Q2 F G p0 m0 hpl hml hne
    obtain ⟨i, F, G, s, t, told, rfl, hi80, hRL, ht0, htl, hPA⟩ := hrel
    have RL := hid hRL
    have PX := hid hPA
    clear hRL hPA
    rcases (by omega : (i < l.length ∧ i < 80) ∨ ((l.length ≤ i) ∨ (i < l.length ∧ 80 ≤ i))) with hh | hh
    · obtain ⟨hlt, h80⟩ := hh
      have hx : l[i]? = some l[i] := List.getElem?_eq_getElem hlt
      obtain ⟨b, off, rfl, hb, hc⟩ := HC.out.get PX.out.hp.bel hx
      obtain ⟨_, _, ee, _, hcw⟩ := HC.out.get (Below.refl _ _) hx
      cases ee
      have hy := HI.out _ (List.getElem_mem hlt)
      generalize l[i] = q at hc hy hcw
      have c0 : wr.cell? ⟨b, off + i * 5, none⟩ = some (.int .i64 q.kind) := by simpa [ask5] using hc 0 (by omega)
      have c1 : wr.cell? ⟨b, off + i * 5 + 1, none⟩ = some (.int .i64 q.i) := by simpa [ask5, Nat.add_assoc] using hc 1 (by omega)
      have c3 : wr.cell? ⟨b, off + i * 5 + 3, none⟩ = some (.int .i64 q.at') := by simpa [ask5, Nat.add_assoc] using hc 3 (by omega)
      have c4 : wr.cell? ⟨b, off + i * 5 + 4, none⟩ = some (.int .i64 q.gen) := by simpa [ask5, Nat.add_assoc] using hc 4 (by omega)
      have HV := hid (show w.cell? ⟨b, off + i * 5 + 2, none⟩ = some (.int .i64 q.v) by simpa [ask5, Nat.add_assoc] using hcw 2 (by omega))
      have hlt1 : (i : Int) < (l.length : Int) := by omega
      have hbr : b < wr.heap.size := Nat.lt_of_lt_of_le hb PX.out.hp.bel.size
      have hyI := hy.2.1
      obtain ⟨m, hm⟩ : ∃ m, told.length = m + 1 := ⟨told.length - 1, by omega⟩
      have hkm : (told.length : Int) - 1 = (m : Int) := by omega
      have HMK := hid hm
      obtain ⟨ta, tc, rfl⟩ := own_form PX.out.tm.own
      clear hc hx hy hm hcw
      obtain ⟨wq, hwq⟩ : ∃ wq, wq = wr := ⟨wr, rfl⟩
      subst hwq
      go_wp2_with fail
      refine (within_any q.i hyI 0 m (Nat.zero_le _) (by omega) _).mono ?_
      rintro e w4 ⟨r, rfl, -, hr, rfl⟩
      have hrt : r < told.length := by have := HMK.out; omega
      have hrp : told[r]? = some told[r] := List.getElem?_eq_getElem hrt
      generalize told[r] = pr at hrp
      obtain ⟨tg, tgc, ee, htg, t0, t1⟩ := refs_get PX.out.tm hrp
      cases ee
      have hrt1 : (r : Int) < (told.length : Int) := by omega
      clear hrp hkm hyI
      go_upto_if 67 with fail
      go_cut [] from 67 to 72 (fun wx => ∃ ra rg : Int, wx = w4.alloc (.cells #[.int .i64 ra, .int .i64 rg] 25))
      case first =>
        by_cases c5 : q.i.tmod 5 = 4
        · have c6 : (q.i.tmod 5 == 4) = true := by simp [c5]
          rw [c6]
          go_wp2_with fail
          go_meet
          case rel => exact ⟨_, _, rfl⟩
        · have c6 : (q.i.tmod 5 == 4) = false := by simp [c5]
          rw [c6]
          go_wp2_with fail
          go_meet
          case rel => exact ⟨_, _, rfl⟩
      case rest =>
      obtain ⟨ra, rg, rfl⟩ := hcut
      have kk := knew w4 (.cells #[.int .i64 ra, .int .i64 rg] 25)
      have PA := hid (PX.out.plain kk)
      obtain ⟨x0, x1⟩ := cell_new w4 (.int .i64 ra) (.int .i64 rg) 25
      have hrX : w4.heap.size < (w4.alloc (.cells #[.int .i64 ra, .int .i64 rg] 25)).heap.size := by simp
      have hrF : ¬ F w4.heap.size := fun e => Nat.lt_irrefl _ (PX.out.hp.is.lt _ e)
      have hrG : ¬ G w4.heap.size := fun e => Nat.lt_irrefl _ (PX.out.hm.lt _ e)
      have d0 := (kk.cell (p := ⟨b, off + i * 5, none⟩) hbr fun e => e).trans c0
      have d2 := (PA.out.hp.bel.cell (p := ⟨b, off + i * 5 + 2, none⟩) hb).trans HV.out
      have hbX : b < (w4.alloc (.cells #[.int .i64 ra, .int .i64 rg] 25)).heap.size := by simp; omega
      have hbF : ¬ F b := fun e => by have := PX.out.hp.new b e; omega
      have hbG : ¬ G b := fun e => by have := PX.out.gn b e; omega
      clear c0 c1 c3 c4 kk PX t0 t1 htg hbr
      generalize w4.alloc (.cells #[.int .i64 ra, .int .i64 rg] 25) = X at *
      generalize w4.heap.size = rb at *
      rcases (by omega : q.kind = 3 ∨ q.kind = 4 ∨ q.kind = 5 ∨ q.kind = 6 ∨ (q.kind ≠ 3 ∧ q.kind ≠ 4 ∧ q.kind ≠ 5 ∧ q.kind ≠ 6)) with hk | hk | hk | hk | hk
      · as_aux_lemma =>
          rw [hk] at d0
          clear d2 hk
          have hbb : s.back.length ≤ 1000000 := by have := RL.out.count; have := RL.out.few; omega
          go_wp2_with fail
          refine (giveI pa s F ra rg _ PA.out.hp.is hbb).mono ?_
          rintro e w5 ⟨rfl, h5, k5⟩
          have P5 := hid (PA.out.pcall h5 k5)
          have y0 := (k5.cell (p := ⟨rb, 0, none⟩) hrX hrF).trans x0
          have y1 := (k5.cell (p := ⟨rb, 1, none⟩) hrX hrF).trans x1
          have hr5 : rb < w5.heap.size := Nat.lt_of_lt_of_le hrX k5.size
          clear h5 k5
          go_wp2_with fail
          refine (giveR ma t G ra rg _ P5.out.hm (by rw [← RL.out.back]; exact hbb)).mono ?_
          rintro e w6 ⟨rfl, h6, k6⟩
          have P6 := hid (P5.out.mcall h6 k6)
          rw [RL.out.get, RL.out.look]
          have R6 := hid ((RL.out.give ra rg).mono (Nat.le_succ i))
          have e1 : (getS 0 s.pl ra rg != getS 0 s.pl ra rg) = false := by simp
          have e2 : (lookS s.pl ra rg != lookS s.pl ra rg) = false := by simp
          have HTD := hid (And.intro ht0 (show told.length ≤ i + 1 + 1 by omega))
          clear h6 k6 y0 y1 P5 PA x0 x1 hrF
          generalize getS 0 s.pl ra rg = gg at e1 ⊢
          generalize lookS s.pl ra rg = ll at e2 ⊢
          obtain ⟨cn1, cn2⟩ := R6.out.count
          have hlen8 : (giveS 0 s ra rg).pl.length ≤ 81 := by have := R6.out.few; omega
          have hlt8 := R6.out.len
          generalize (giveS 0 s ra rg) = s8 at *
          generalize (giveM t ra rg) = t8 at *
          go_wp2_with fail
          refine (lenIH P6.out.hp cn2 (by omega)).mono ?_
          rintro e w8 ⟨rfl, nd, rfl⟩
          have P8 := hid (P6.out.plain ((Kept.refl _ _).drewN nd))
          go_wp2_with fail
          refine (allR _ _ _ _ P8.out.hm (by omega)).mono ?_
          rintro e w9 ⟨v9, rfl, ho9, hb9⟩
          rw [R6.out.all] at ho9
          obtain ⟨a9, c9, rfl⟩ := own_form ho9
          have P9 := hid (P8.out.plain (Kept.of_below hb9))
          have hz9 : (((s8.pl.length - s8.back.length : Nat) : Int) != ((allS s8.pl).length : Int)) = false := by rw [cn1]; simp
          clear ho9 hb9
          go_wp2_with fail
          refine (allI _ _ _ _ P9.out.hp.is (by omega) cn2).mono ?_
          rintro e w10 ⟨v10, rfl, ho10, hb10⟩
          have P10 := hid (P9.out.plain (Kept.of_below hb10))
          have O10 := hid ho10
          clear ho10 hb10
          go_wp2_with fail
          refine (allR _ _ _ _ P10.out.hm (by omega)).mono ?_
          rintro e w11 ⟨v11, rfl, ho11, hb11⟩
          rw [R6.out.all] at ho11
          have P11 := hid (P10.out.plain (Kept.of_below hb11))
          have O11 := hid ho11
          have O12 := hid (own_below O10.out hb11)
          clear ho11 hb11
          go_wp2_with fail
          refine (sameI v10 v11 _ _ (allS s8.pl) _ (by omega) O12.out O11.out).mono ?_
          rintro e w12 ⟨rfl, ne, rfl⟩
          have P12 := hid (P11.out.plain ((Kept.refl _ _).drewN ne))
          clear O10 O11 O12 P8 P9 P10 P11 hz9 cn1 cn2
          go_wp2
          go_roundw
          case rel => exact ⟨i + 1, _, _, _, _, _, by go_num, by omega, R6.out, HTD.out.1, HTD.out.2, P12.out⟩
          case measure => simp [intOf]; omega
      · as_aux_lemma =>
          rw [hk] at d0
          clear d2 hk
          have hbb : s.back.length ≤ 1000000 := by have := RL.out.count; have := RL.out.few; omega
          go_wp2_with fail
          refine (giveI pa s F ra rg _ PA.out.hp.is hbb).mono ?_
          rintro e w5 ⟨rfl, h5, k5⟩
          have P5 := hid (PA.out.pcall h5 k5)
          have y0 := (k5.cell (p := ⟨rb, 0, none⟩) hrX hrF).trans x0
          have y1 := (k5.cell (p := ⟨rb, 1, none⟩) hrX hrF).trans x1
          have hr5 : rb < w5.heap.size := Nat.lt_of_lt_of_le hrX k5.size
          clear h5 k5
          go_wp2_with fail
          refine (giveR ma t G ra rg _ P5.out.hm (by rw [← RL.out.back]; exact hbb)).mono ?_
          rintro e w6 ⟨rfl, h6, k6⟩
          have P6 := hid (P5.out.mcall h6 k6)
          rw [RL.out.get, RL.out.look]
          have R6 := hid ((RL.out.give ra rg).mono (Nat.le_succ i))
          have e1 : (getS 0 s.pl ra rg != getS 0 s.pl ra rg) = false := by simp
          have e2 : (lookS s.pl ra rg != lookS s.pl ra rg) = false := by simp
          have HTD := hid (And.intro ht0 (show told.length ≤ i + 1 + 1 by omega))
          clear h6 k6 y0 y1 P5 PA x0 x1 hrF
          generalize getS 0 s.pl ra rg = gg at e1 ⊢
          generalize lookS s.pl ra rg = ll at e2 ⊢
          obtain ⟨cn1, cn2⟩ := R6.out.count
          have hlen8 : (giveS 0 s ra rg).pl.length ≤ 81 := by have := R6.out.few; omega
          have hlt8 := R6.out.len
          generalize (giveS 0 s ra rg) = s8 at *
          generalize (giveM t ra rg) = t8 at *
          go_wp2_with fail
          refine (lenIH P6.out.hp cn2 (by omega)).mono ?_
          rintro e w8 ⟨rfl, nd, rfl⟩
          have P8 := hid (P6.out.plain ((Kept.refl _ _).drewN nd))
          go_wp2_with fail
          refine (allR _ _ _ _ P8.out.hm (by omega)).mono ?_
          rintro e w9 ⟨v9, rfl, ho9, hb9⟩
          rw [R6.out.all] at ho9
          obtain ⟨a9, c9, rfl⟩ := own_form ho9
          have P9 := hid (P8.out.plain (Kept.of_below hb9))
          have hz9 : (((s8.pl.length - s8.back.length : Nat) : Int) != ((allS s8.pl).length : Int)) = false := by rw [cn1]; simp
          clear ho9 hb9
          go_wp2_with fail
          refine (allI _ _ _ _ P9.out.hp.is (by omega) cn2).mono ?_
          rintro e w10 ⟨v10, rfl, ho10, hb10⟩
          have P10 := hid (P9.out.plain (Kept.of_below hb10))
          have O10 := hid ho10
          clear ho10 hb10
          go_wp2_with fail
          refine (allR _ _ _ _ P10.out.hm (by omega)).mono ?_
          rintro e w11 ⟨v11, rfl, ho11, hb11⟩
          rw [R6.out.all] at ho11
          have P11 := hid (P10.out.plain (Kept.of_below hb11))
          have O11 := hid ho11
          have O12 := hid (own_below O10.out hb11)
          clear ho11 hb11
          go_wp2_with fail
          refine (sameI v10 v11 _ _ (allS s8.pl) _ (by omega) O12.out O11.out).mono ?_
          rintro e w12 ⟨rfl, ne, rfl⟩
          have P12 := hid (P11.out.plain ((Kept.refl _ _).drewN ne))
          clear O10 O11 O12 P8 P9 P10 P11 hz9 cn1 cn2
          go_wp2
          go_roundw
          case rel => exact ⟨i + 1, _, _, _, _, _, by go_num, by omega, R6.out, HTD.out.1, HTD.out.2, P12.out⟩
          case measure => simp [intOf]; omega
      · as_aux_lemma =>
          rw [hk] at d0
          clear d2 hk
          go_wp2_with fail
          refine (getI pa s F ra rg _ PA.out.hp.is).mono ?_
          rintro e w5 ⟨rfl, h5⟩
          have P5 := hid (PA.out.plain (Kept.of_below h5))
          have y0 := (h5.cell (p := ⟨rb, 0, none⟩) hrX).trans x0
          have y1 := (h5.cell (p := ⟨rb, 1, none⟩) hrX).trans x1
          have hr5 : rb < w5.heap.size := Nat.lt_of_lt_of_le hrX h5.size
          clear h5
          go_wp2_with fail
          refine (getR ma t G ra rg _ P5.out.hm).mono ?_
          rintro e w6 ⟨rfl, h6⟩
          have P6 := hid (P5.out.plain (Kept.of_below h6))
          rw [RL.out.get, RL.out.look]
          have R6 := hid (RL.out.mono (Nat.le_succ i))
          have e1 : (getS 0 s.pl ra rg != getS 0 s.pl ra rg) = false := by simp
          have e2 : (lookS s.pl ra rg != lookS s.pl ra rg) = false := by simp
          have HTD := hid (And.intro ht0 (show told.length ≤ i + 1 + 1 by omega))
          clear h6 y0 y1 P5 PA x0 x1 hrF
          generalize getS 0 s.pl ra rg = gg at e1 ⊢
          generalize lookS s.pl ra rg = ll at e2 ⊢
          obtain ⟨cn1, cn2⟩ := R6.out.count
          have hlen8 : (s).pl.length ≤ 81 := by have := R6.out.few; omega
          have hlt8 := R6.out.len
          obtain ⟨s8, hs8⟩ : ∃ s8, s8 = s := ⟨s, rfl⟩
          subst hs8
          obtain ⟨t8, ht8⟩ : ∃ t8, t8 = t := ⟨t, rfl⟩
          subst ht8
          go_wp2_with fail
          refine (lenIH P6.out.hp cn2 (by omega)).mono ?_
          rintro e w8 ⟨rfl, nd, rfl⟩
          have P8 := hid (P6.out.plain ((Kept.refl _ _).drewN nd))
          go_wp2_with fail
          refine (allR _ _ _ _ P8.out.hm (by omega)).mono ?_
          rintro e w9 ⟨v9, rfl, ho9, hb9⟩
          rw [R6.out.all] at ho9
          obtain ⟨a9, c9, rfl⟩ := own_form ho9
          have P9 := hid (P8.out.plain (Kept.of_below hb9))
          have hz9 : (((s8.pl.length - s8.back.length : Nat) : Int) != ((allS s8.pl).length : Int)) = false := by rw [cn1]; simp
          clear ho9 hb9
          go_wp2_with fail
          refine (allI _ _ _ _ P9.out.hp.is (by omega) cn2).mono ?_
          rintro e w10 ⟨v10, rfl, ho10, hb10⟩
          have P10 := hid (P9.out.plain (Kept.of_below hb10))
          have O10 := hid ho10
          clear ho10 hb10
          go_wp2_with fail
          refine (allR _ _ _ _ P10.out.hm (by omega)).mono ?_
          rintro e w11 ⟨v11, rfl, ho11, hb11⟩
          rw [R6.out.all] at ho11
          have P11 := hid (P10.out.plain (Kept.of_below hb11))
          have O11 := hid ho11
          have O12 := hid (own_below O10.out hb11)
          clear ho11 hb11
          go_wp2_with fail
          refine (sameI v10 v11 _ _ (allS s8.pl) _ (by omega) O12.out O11.out).mono ?_
          rintro e w12 ⟨rfl, ne, rfl⟩
          have P12 := hid (P11.out.plain ((Kept.refl _ _).drewN ne))
          clear O10 O11 O12 P8 P9 P10 P11 hz9 cn1 cn2
          go_wp2
          go_roundw
          case rel => exact ⟨i + 1, _, _, _, _, _, by go_num, by omega, R6.out, HTD.out.1, HTD.out.2, P12.out⟩
          case measure => simp [intOf]; omega
      · as_aux_lemma =>
          rw [hk] at d0
          have e2 : (lookS s.pl ra rg != lookS t.pl ra rg) = false := by rw [RL.out.look]; simp
          have R6 := hid ((RL.out.set ra rg q.v).mono (Nat.le_succ i))
          have HTD := hid (And.intro ht0 (show told.length ≤ i + 1 + 1 by omega))
          clear hk
          go_wp2_with fail
          go_region_held3 (fun w' => w'.cell? ⟨rb, 0, none⟩ = some (.int .i64 ra) ∧ w'.cell? ⟨rb, 1, none⟩ = some (.int .i64 rg) ∧ w'.cell? ⟨b, off + i * 5 + 2, none⟩ = some (.int .i64 q.v)) (first | exact ⟨z0, z1, z2⟩ | exact ⟨y0, y1, y2⟩ | exact ⟨x0, x1, d2⟩)
            (first
              | (go_at_call 26; refine (setI pa s F ra rg q.v _ (by exact (PA.out.plain ((Kept.refl _ _).drew)).hp.is)).mono ?_; rintro e w5 ⟨rfl, h5, k5⟩; have P5 := hid ((PA.out.plain ((Kept.refl _ _).drew)).pcall h5 k5); have y0 := (k5.cell (p := ⟨rb, 0, none⟩) hrX hrF).trans x0; have y1 := (k5.cell (p := ⟨rb, 1, none⟩) hrX hrF).trans x1; have y2 := (k5.cell (p := ⟨b, off + i * 5 + 2, none⟩) hbX hbF).trans d2; have hr5 : rb < w5.heap.size := Nat.lt_of_lt_of_le hrX k5.size; have hb5 : b < w5.heap.size := Nat.lt_of_lt_of_le hbX k5.size; clear h5 k5)
              | (go_at_call 27; refine (setR ma t G ra rg q.v _ (by exact P5.out.hm)).mono ?_; rintro e w6 ⟨rfl, h6, k6⟩; have P6 := hid (P5.out.mcall h6 k6); have z0 := (k6.cell (p := ⟨rb, 0, none⟩) hr5 hrG).trans y0; have z1 := (k6.cell (p := ⟨rb, 1, none⟩) hr5 hrG).trans y1; have z2 := (k6.cell (p := ⟨b, off + i * 5 + 2, none⟩) hb5 hbG).trans y2; clear h6 k6))
          clear x0 x1 y0 y1 y2 z0 z1 z2 d2 PA P5 e2
          obtain ⟨cn1, cn2⟩ := R6.out.count
          have hlen8 : (setS s ra rg q.v).pl.length ≤ 81 := by have := R6.out.few; omega
          have hlt8 := R6.out.len
          generalize (setS s ra rg q.v) = s8 at *
          generalize (setS t ra rg q.v) = t8 at *
          go_wp2_with fail
          refine (lenIH P6.out.hp cn2 (by omega)).mono ?_
          rintro e w8 ⟨rfl, nd, rfl⟩
          have P8 := hid (P6.out.plain ((Kept.refl _ _).drewN nd))
          go_wp2_with fail
          refine (allR _ _ _ _ P8.out.hm (by omega)).mono ?_
          rintro e w9 ⟨v9, rfl, ho9, hb9⟩
          rw [R6.out.all] at ho9
          obtain ⟨a9, c9, rfl⟩ := own_form ho9
          have P9 := hid (P8.out.plain (Kept.of_below hb9))
          have hz9 : (((s8.pl.length - s8.back.length : Nat) : Int) != ((allS s8.pl).length : Int)) = false := by rw [cn1]; simp
          clear ho9 hb9
          go_wp2_with fail
          refine (allI _ _ _ _ P9.out.hp.is (by omega) cn2).mono ?_
          rintro e w10 ⟨v10, rfl, ho10, hb10⟩
          have P10 := hid (P9.out.plain (Kept.of_below hb10))
          have O10 := hid ho10
          clear ho10 hb10
          go_wp2_with fail
          refine (allR _ _ _ _ P10.out.hm (by omega)).mono ?_
          rintro e w11 ⟨v11, rfl, ho11, hb11⟩
          rw [R6.out.all] at ho11
          have P11 := hid (P10.out.plain (Kept.of_below hb11))
          have O11 := hid ho11
          have O12 := hid (own_below O10.out hb11)
          clear ho11 hb11
          go_wp2_with fail
          refine (sameI v10 v11 _ _ (allS s8.pl) _ (by omega) O12.out O11.out).mono ?_
          rintro e w12 ⟨rfl, ne, rfl⟩
          have P12 := hid (P11.out.plain ((Kept.refl _ _).drewN ne))
          clear O10 O11 O12 P8 P9 P10 P11 hz9 cn1 cn2
          go_wp2
          go_roundw
          case rel => exact ⟨i + 1, _, _, _, _, _, by go_num, by omega, R6.out, HTD.out.1, HTD.out.2, P12.out⟩
          case measure => simp [intOf]; omega
      · as_aux_lemma =>
          have f3 : (q.kind == 3) = false := by simp [hk.1]
          have f4 : (q.kind == 4) = false := by simp [hk.2.1]
          have f5 : (q.kind == 5) = false := by simp [hk.2.2.1]
          have f6 : (q.kind == 6) = false := by simp [hk.2.2.2]
          have hbb : s.back.length ≤ 100000 := by have := RL.out.count; have := RL.out.few; omega
          have hpp : s.pl.length ≤ 100000 := by have := RL.out.few; omega
          have hbk : ∀ b ∈ s.back, b < s.pl.length := fun b hb => by obtain ⟨x, hx, _⟩ := RL.out.bk b hb; exact (List.getElem?_eq_some_iff.1 hx).1
          have hll : ∀ x ∈ s.pl, x.2.1 ≤ 100000 := fun x hx => by have := RL.out.liv x hx; omega
          have hlt2 : ∀ x ∈ t.pl, x.2.1 ≤ 100000 := fun x hx => by
            obtain ⟨j, hj, rfl⟩ := List.getElem_of_mem hx
            have hj2 : j < s.pl.length := by rw [RL.out.len]; exact hj
            have := (RL.out.like j s.pl[j] t.pl[j] (List.getElem?_eq_getElem hj2) (List.getElem?_eq_getElem hj)).1
            rw [← this]
            exact hll _ (List.getElem_mem hj2)
          obtain ⟨-, n2, n3, hR6⟩ := RL.out.take q.v
          have R6 := hid hR6
          have HLL := hid (And.intro hll (And.intro hlt2 hbk))
          clear hk hR6 hll hlt2 hbk
          go_wp2_with fail
          refine (takeI pa s F q.v _ PA.out.hp.is hpp hbb HLL.out.2.2 HLL.out.1).mono ?_
          rintro e w5 ⟨rfl, h5, k5⟩
          have P5 := hid (PA.out.pcall h5 k5)
          have y2 := (k5.cell (p := ⟨b, off + i * 5 + 2, none⟩) hbX hbF).trans d2
          have hb5 : b < w5.heap.size := Nat.lt_of_lt_of_le hbX k5.size
          have hG5 := P5.out.hm.lt
          generalize Grow F X w5 = F5 at P5
          clear h5 k5 d2 x0 x1
          obtain ⟨tk, htk⟩ : ∃ tk, tookS (0 : Int) s = tk := ⟨_, rfl⟩
          rw [htk] at n3
          rw [htk]
          have kk := knew w5 (.cells #[.int .i64 tk.1, .int .i64 tk.2] 25)
          have P6 := hid (P5.out.plain kk)
          obtain ⟨u0, u1⟩ := cell_new w5 (.int .i64 tk.1) (.int .i64 tk.2) 25
          have v2 := (kk.cell (p := ⟨b, off + i * 5 + 2, none⟩) hb5 fun e => e).trans y2
          have haX : w5.heap.size < (w5.alloc (.cells #[.int .i64 tk.1, .int .i64 tk.2] 25)).heap.size := by simp
          have haG : ¬ G w5.heap.size := fun e => Nat.lt_irrefl _ (hG5 _ e)
          clear kk y2 P5 PA htk hG5
          go_wp2_with fail
          refine (takeR ma t G q.v _ P6.out.hm (by rw [← RL.out.len]; exact hpp) (by rw [← RL.out.len, ← RL.out.most]; exact RL.out.room) (by rw [← RL.out.back]; exact hbb) (by rw [← RL.out.back, ← RL.out.len]; exact HLL.out.2.2) HLL.out.2.1).mono ?_
          rintro e w6 ⟨rfl, h6, k6⟩
          rw [n3, n2]
          have P7 := hid (P6.out.mcall h6 k6)
          have s0 := (k6.cell (p := ⟨w5.heap.size, 0, none⟩) haX haG).trans u0
          have s1 := (k6.cell (p := ⟨w5.heap.size, 1, none⟩) haX haG).trans u1
          have ha6 : w5.heap.size < w6.heap.size := Nat.lt_of_lt_of_le haX k6.size
          generalize Grow G _ w6 = G6 at P7
          generalize w5.heap.size = ab at s0 s1 ha6 ⊢
          clear h6 k6 u0 u1 v2 haX haG n2 n3 P6
          have hq := fun w => neq25 (tk.1, tk.2) (tk.1, tk.2) w
          simp at hq
          have kb := knew w6 (.cells #[.int .i64 tk.1, .int .i64 tk.2] 25)
          have P8 := hid (P7.out.plain kb)
          have t0 := (kb.cell (p := ⟨ab, 0, none⟩) ha6 fun e => e).trans s0
          have t1 := (kb.cell (p := ⟨ab, 1, none⟩) ha6 fun e => e).trans s1
          have ha7 : ab < (w6.alloc (.cells #[.int .i64 tk.1, .int .i64 tk.2] 25)).heap.size := by simp; omega
          clear kb P7
          generalize (nextS (0 : Int) s).2.2 = ok
          cases ok with
          | false =>
            have HTD := hid (And.intro ht0 (show told.length ≤ i + 1 + 1 by omega))
            go_wp2_with fail
            obtain ⟨cn1, cn2⟩ := R6.out.count
            have hlen8 : (takeS 0 q.v s).pl.length ≤ 81 := by have := R6.out.few; omega
            have hlt8 := R6.out.len
            generalize (takeS 0 q.v s) = s8 at *
            generalize (takeS 0 q.v t) = t8 at *
            refine (lenIH P8.out.hp cn2 (by omega)).mono ?_
            rintro e w8 ⟨rfl, nd, rfl⟩
            have P8 := hid (P8.out.plain ((Kept.refl _ _).drewN nd))
            go_wp2_with fail
            refine (allR _ _ _ _ P8.out.hm (by omega)).mono ?_
            rintro e w9 ⟨v9, rfl, ho9, hb9⟩
            rw [R6.out.all] at ho9
            obtain ⟨a9, c9, rfl⟩ := own_form ho9
            have P9 := hid (P8.out.plain (Kept.of_below hb9))
            have hz9 : (((s8.pl.length - s8.back.length : Nat) : Int) != ((allS s8.pl).length : Int)) = false := by rw [cn1]; simp
            clear ho9 hb9
            go_wp2_with fail
            refine (allI _ _ _ _ P9.out.hp.is (by omega) cn2).mono ?_
            rintro e w10 ⟨v10, rfl, ho10, hb10⟩
            have P10 := hid (P9.out.plain (Kept.of_below hb10))
            have O10 := hid ho10
            clear ho10 hb10
            go_wp2_with fail
            refine (allR _ _ _ _ P10.out.hm (by omega)).mono ?_
            rintro e w11 ⟨v11, rfl, ho11, hb11⟩
            rw [R6.out.all] at ho11
            have P11 := hid (P10.out.plain (Kept.of_below hb11))
            have O11 := hid ho11
            have O12 := hid (own_below O10.out hb11)
            clear ho11 hb11
            go_wp2_with fail
            refine (sameI v10 v11 _ _ (allS s8.pl) _ (by omega) O12.out O11.out).mono ?_
            rintro e w12 ⟨rfl, ne, rfl⟩
            have P12 := hid (P11.out.plain ((Kept.refl _ _).drewN ne))
            clear O10 O11 O12 P8 P9 P10 P11 hz9 cn1 cn2
            go_wp2
            go_roundw
            case rel => exact ⟨i + 1, _, _, _, _, _, by go_num, by omega, R6.out, HTD.out.1, HTD.out.2, P12.out⟩
            case measure => simp [intOf]; omega
          | true =>
            obtain ⟨ti, hti, hz0, hz1, hz2⟩ := info_parts info25
            have HT := hid hti
            have Z0 := hid hz0
            have Z1 := hid hz1
            have Z2 := hid hz2
            have HTD := hid (And.intro (show 0 < (told ++ [tk]).length by simp) (show (told ++ [tk]).length ≤ i + 1 + 1 by simp; omega))
            clear hti hz0 hz1 hz2
            go_wp2_with (at_builtin; refine wpList_append_lies _ rfl (.tmp 107) (.tmp 109) 38 rfl 0 25 ti _ 2 16 Try.underlying38 HT.out Z0.out Z1.out Z2.out rfl (by decide) (.slice (some ⟨tg, 0, none⟩) told.length tc) told.length (row ref2 told) rfl (World.ownsRow.alloc P8.out.tm.own _) ⟨w6.heap.size + 1, 0, none⟩ 1 1 (ref2 tk) rfl rfl (news1 w6 _ #[.int .i64 tk.1, .int .i64 tk.2] 25) (ref2_one _) (by decide) (by simp [maxLen]; omega) (by omega) (Nat.zero_le _) (w6.heap.size + 2) (by simp) ?_; intro g7 c7 w7 ho hgr hat hlt; have PT := hid (PlayAt.tell (p := tk) (P8.out.plain (knew _ _)) hgr ho (hat.imp id fun e => by rw [e]; simp)); clear ho hgr hat hlt)
            obtain ⟨cn1, cn2⟩ := R6.out.count
            have hlen8 : (takeS 0 q.v s).pl.length ≤ 81 := by have := R6.out.few; omega
            have hlt8 := R6.out.len
            generalize (takeS 0 q.v s) = s8 at *
            generalize (takeS 0 q.v t) = t8 at *
            refine (lenIH PT.out.hp cn2 (by omega)).mono ?_
            rintro e w8 ⟨rfl, nd, rfl⟩
            have P8 := hid (PT.out.plain ((Kept.refl _ _).drewN nd))
            go_wp2_with fail
            refine (allR _ _ _ _ P8.out.hm (by omega)).mono ?_
            rintro e w9 ⟨v9, rfl, ho9, hb9⟩
            rw [R6.out.all] at ho9
            obtain ⟨a9, c9, rfl⟩ := own_form ho9
            have P9 := hid (P8.out.plain (Kept.of_below hb9))
            have hz9 : (((s8.pl.length - s8.back.length : Nat) : Int) != ((allS s8.pl).length : Int)) = false := by rw [cn1]; simp
            clear ho9 hb9
            go_wp2_with fail
            refine (allI _ _ _ _ P9.out.hp.is (by omega) cn2).mono ?_
            rintro e w10 ⟨v10, rfl, ho10, hb10⟩
            have P10 := hid (P9.out.plain (Kept.of_below hb10))
            have O10 := hid ho10
            clear ho10 hb10
            go_wp2_with fail
            refine (allR _ _ _ _ P10.out.hm (by omega)).mono ?_
            rintro e w11 ⟨v11, rfl, ho11, hb11⟩
            rw [R6.out.all] at ho11
            have P11 := hid (P10.out.plain (Kept.of_below hb11))
            have O11 := hid ho11
            have O12 := hid (own_below O10.out hb11)
            clear ho11 hb11
            go_wp2_with fail
            refine (sameI v10 v11 _ _ (allS s8.pl) _ (by omega) O12.out O11.out).mono ?_
            rintro e w12 ⟨rfl, ne, rfl⟩
            have P12 := hid (P11.out.plain ((Kept.refl _ _).drewN ne))
            clear O10 O11 O12 P8 P9 P10 P11 hz9 cn1 cn2
            go_wp2
            go_roundw
            case rel => exact ⟨i + 1, _, _, _, _, _, by go_num, by omega, R6.out, HTD.out.1, HTD.out.2, P12.out⟩
            case measure => simp [intOf]; omega
    · have hdone : ¬ i < l.length ∨ (i < l.length ∧ ¬ i < 80) := by
        rcases hh with hh | ⟨hh, hh'⟩
        · exact Or.inl (by omega)
        · exact Or.inr ⟨hh, by omega⟩
      have BL := hid PX.out.hp.bel
      clear hh PX RL hi80
      rcases hdone with c1 | ⟨c1, c2⟩
      all_goals
        go_wp2
        go_ret
        exact ⟨rfl, BL.out⟩
end Go.Proofs.Ytliabapopgeieaa
