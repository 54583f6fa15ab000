/- The walk of ItemPlays. -/
import Derived.Test.YtonflgkfbhndbaaPd
import Derived.Test.YtonflgkfbhndbaaRg
import Derived.Deep.DeepCutAuto
import Derived.Deep.RegionWith
namespace Go.Proofs.Ytonflgkfbhndbaa
open Go.ChangeShapes Go.WideShapes Go.ChangeAt Go.RowKit

set_option maxRecDepth 100000 in
set_option maxHeartbeats 4000000 in
theorem plays_walk (a0 : Option Addr) (cap0 : Nat) (l : List (Int × Int)) (hlm : l.length ≤ maxLen) (a1 : Option Addr) (cap1 : Nat) (sw : List Int) (_hsm : sw.length ≤ maxLen) (a2 : Option Addr) (cap2 : Nat) (ks : List Int) (hkm : ks.length ≤ maxLen) (w : World)
    (hC : Came w a0 2 ent2 l) (hS : Came w a1 1 oneI sw) (hK : Came w a2 1 oneI ks) (hSI : ∀ x ∈ sw, I64 x) :
    Calls Try.prog 4 #[.slice a0 l.length cap0, .slice a1 sw.length cap1, .slice a2 ks.length cap2] w fun e w' => e = .returned (.bool true) ∧ Below w.heap.size w w' := by
  have HC := hid hC
  have HS := hid hS
  have HK := hid hK
  have HSI := hid hSI
  obtain ⟨ti, hti, hz0, hz1, hz2⟩ := info_parts info3
  have HT := hid hti
  have Z0 := hid hz0
  have Z1 := hid hz1
  have Z2 := hid hz2
  clear hti hz0 hz1 hz2
  obtain ⟨te, hte, he0, he1, he2⟩ := info_parts info24
  have ET := hid hte
  have E0 := hid he0
  have E1 := hid he1
  have E2 := hid he2
  clear hC hS hK hSI hte he0 he1 he2
  unfold maxLen at hlm _hsm hkm
  go_enter Try.func4, Try.ntmps4
  go_wp2_with fail
  refine (startI 60 (by decide) kf0 w).mono ?_
  rintro e w2 ⟨F, pa, pm, rfl, h2⟩
  have H2 := hid h2
  clear h2
  go_wp2_with fail
  refine (meterA pa pm _ F w2 H2.out.is).mono ?_
  rintro e w3 ⟨rfl, rfl⟩
  go_wp2
  go_loopw [8, 9, 10, 11, 12, 13] (fun mv cv iv _ _ _ wr => ∃ (i : Nat) (G : Nat → Prop) (f : Nat → Nat → Int) (ml : List (Int × Int)), iv = .int .i64 i ∧ i ≤ l.length ∧ i ≤ 20 ∧ ml.length = i ∧ HoldA w wr G pa pm (mk 60 i f (4 * i)) ∧ Ens f ml ∧ Mine w wr G 24 2 mv i (row ent2 ml) ∧ Mine w wr G 3 1 cv i (row nat1 (List.range' 0 i))) (fun _ _ i _ _ _ _ => 20 - (intOf i).toNat)
  case atStart => exact ⟨0, F, kf0, [], rfl, by omega, by omega, rfl, H2.out, fun c x h => by simp at h, Mine.nil _ _ _ _ _, Mine.nil _ _ _ _ _⟩
  case round =>
    clear H2
    obtain ⟨i, G, f, ml, rfl, hil, hi, hml, hh, hE, hm, hc⟩ := hrel
    have HH := hid hh
    have EE := hid hE
    have M1 := hid hm
    have M2 := hid hc
    have ML := hid hml
    obtain ⟨ma, mc, rfl⟩ := own_form hm.own
    obtain ⟨ca, cc, rfl⟩ := own_form hc.own
    clear hh hE hm hc hml
    go_upto_region 7 with fail
    go_cut [43] from 36 to 43 (fun v wx => v = .bool (decide (i < l.length ∧ i < 20)) ∧ wx = wr)
    case first =>
      by_cases q1 : i < l.length
      · have q1' : decide ((i : Int) < (l.length : Int)) = true := by simp; omega
        by_cases q2 : i < 20
        · have q2' : decide ((i : Int) < 20) = true := by simp; omega
          go_wp2
          go_meet
          case rel => exact ⟨by simp [q1, q2], rfl⟩
        · have q2' : decide ((i : Int) < 20) = false := by simp; omega
          go_wp2
          go_meet
          case rel => exact ⟨by simp [q1, q2], rfl⟩
      · have q1' : decide ((i : Int) < (l.length : Int)) = false := by simp; omega
        go_wp2
        go_meet
        case rel => exact ⟨by simp [q1], rfl⟩
    case rest =>
      obtain ⟨rfl, rfl⟩ := hcut
      by_cases hlt : i < l.length ∧ i < 20
      · as_aux_lemma =>
        rw [decide_eq_true hlt]
        obtain ⟨hlt1, hlt2⟩ := hlt
        have hov : l[i]? = some l[i] := List.getElem?_eq_getElem hlt1
        obtain ⟨b0, off, ee, hb0, hc0⟩ := HC.out.get HH.out.bel hov
        subst ee
        generalize l[i] = ov at hov hc0
        have d0 : wc.cell? ⟨b0, off + i * 2, none⟩ = some (.int .i64 ov.1) := by simpa [ent2] using hc0 0 (by decide)
        have d1 : wc.cell? ⟨b0, off + i * 2 + 1, none⟩ = some (.int .i64 ov.2) := by simpa [ent2, Nat.add_assoc] using hc0 1 (by decide)
        have hb0' : b0 < wc.heap.size := Nat.lt_of_lt_of_le hb0 HH.out.bel.size
        have hlt1' : (i : Int) < (l.length : Int) := by omega
        clear hov hc0
        go_wp2_with fail
        refine (meterA pa pm _ G wc HH.out.is).mono ?_
        rintro e w3 ⟨rfl, rfl⟩
        go_wp2_with fail
        refine (stepsA pa pm _ G _ HH.out.is).mono ?_
        rintro e w4 ⟨rfl, rfl⟩
        rw [show (mk 60 i f (4 * i)).steps = 4 * i from rfl]
        have T1 := hid (newI ov.1 ov.2 (HH.out.plain ((Kept.refl _ _).drew)) (by omega) (by omega))
        obtain ⟨t, ht⟩ : ∃ t, t = 4 * i := ⟨_, rfl⟩
        obtain ⟨t3, ht3⟩ : ∃ t3, t3 = t + 3 := ⟨_, rfl⟩
        rw [← ht] at T1 ⊢
        rw [← ht3] at T1
        have hd3 : (t3 : Int) - (t : Int) = 3 := by omega
        have HT4 := hid ht
        have HT3 := hid ht3
        have ht3' : t3 ≤ 1000 := by omega
        clear ht ht3
        go_wp2_with fail
        go_region_held3 (fun w' => w'.cell? ⟨b0, off + i * 2, none⟩ = some (.int .i64 ov.1) ∧ w'.cell? ⟨b0, off + i * 2 + 1, none⟩ = some (.int .i64 ov.2)) (exact ⟨d0, d1⟩)
          (first
            | (go_at_call 10; (with_reducible refine T1.out.mono ?_); rintro e w5 ⟨rfl, h5, k5⟩; have H5 := hid h5; have M15 := hid ((M1.out.plain ((Kept.refl _ _).drew)).call k5); have M25 := hid ((M2.out.plain ((Kept.refl _ _).drew)).call k5); replace d0 := (k5.cell (p := ⟨b0, off + i * 2, none⟩) hb0' (fun q => by have := HH.out.new b0 q; omega)).trans d0; replace d1 := (k5.cell (p := ⟨b0, off + i * 2 + 1, none⟩) hb0' (fun q => by have := HH.out.new b0 q; omega)).trans d1; replace hb0' := Nat.lt_of_lt_of_le hb0' k5.size; clear h5 k5))
        generalize Grow G w4.drew w5 = G5 at H5 M15 M25
        clear T1 HH M1 M2
        have EE5 := hid (EE.out.new ov ML.out)
        have N5 := hid (show put (put (put0 f i) i 7 ov.1) i 8 ov.2 i 9 = -1 by rw [put_nj (by decide), put_nj (by decide), put0_at]; decide)
        generalize put (put (put0 f i) i 7 ov.1) i 8 ov.2 = f5 at H5 EE5 N5
        clear EE
        go_wp2_with fail
        refine (meterA pa pm _ G5 w5 H5.out.is).mono ?_
        rintro e w6 ⟨rfl, rfl⟩
        go_wp2_with fail
        refine (stepsA pa pm _ G5 _ H5.out.is).mono ?_
        rintro e w7 ⟨rfl, rfl⟩
        rw [show (mk 60 (i + 1) f5 t3).steps = t3 from rfl]
        go_wp2_with fail
        refine (nodeI_no H5.out (by omega) (c := i) (by omega) N5.out).mono ?_
        rintro e w8 ⟨rfl, h8, k8⟩
        have H8 := hid h8
        have M18 := hid (M15.out.stay k8)
        have M28 := hid (M25.out.stay k8)
        have BW := hid (show b0 < w.heap.size from hb0)
        have hb5 : ¬ G5 b0 := fun q => by have := H5.out.new b0 q; omega
        replace d0 := (k8.cell (p := ⟨b0, off + i * 2, none⟩) hb0' hb5).trans d0
        replace d1 := (k8.cell (p := ⟨b0, off + i * 2 + 1, none⟩) hb0' hb5).trans d1
        replace hb0' := Nat.lt_of_lt_of_le hb0' k8.size
        clear h8 k8 H5 M15 M25
        have NE : Hid (∀ j u, [Value.int .i64 ov.1, Value.int .i64 ov.2][j]? = some u → (w8.alloc (.cells #[.int .i64 ov.1, .int .i64 ov.2] 24)).cell? ((⟨w8.heap.size, 0, none⟩ : Addr).add j) = some u) := World.news_of_block (heap_alloc_new w8 (.cells #[.int .i64 ov.1, .int .i64 ov.2] 24))
        have hin1 := M18.out.own.1
        have hin2 := M28.out.own.1
        go_wp2_with (first
          | (at_builtin; refine wpList_append_lies _ rfl (.tmp 80) (.tmp 85) 25 rfl 0 24 te _ 2 16 Try.underlying25 ET.out E0.out E1.out E2.out rfl (by decide) (.slice ma i mc) i (row ent2 ml) rfl (World.ownsRow.alloc M18.out.own _) ⟨w8.heap.size, 0, none⟩ 1 1 [.int .i64 ov.1, .int .i64 ov.2] rfl rfl NE.out (by simp [Value.oneCell']) (by decide) (by simp [maxLen]; omega) (by omega) (Nat.zero_le _) (w8.heap.size + 1) (by simp) ?_; intro g1 cap1' w9 ho hgr hat hlt; have M19 := hid (M18.out.pushed ho (hat.imp id fun e => by omega) H8.out.is.lt H8.out.bel.size); have M29 := hid (M28.out.beside M18.out (by decide) hgr); have H9 := hid (H8.out.pushed M18.out hgr); have NI : Hid (∀ j u, [Value.int .i64 (i : Int)][j]? = some u → (w9.alloc (.cells #[.int .i64 (i : Int)] 3)).cell? ((⟨w9.heap.size, 0, none⟩ : Addr).add j) = some u) := World.news_of_block (heap_alloc_new w9 (.cells #[.int .i64 (i : Int)] 3)); clear ho hgr hat hlt d0 d1)
          | (at_builtin; refine wpList_append_lies _ rfl (.tmp 87) (.tmp 89) 26 rfl 0 3 ti _ 1 8 Try.underlying26 HT.out Z0.out Z1.out Z2.out rfl (by decide) (.slice ca i cc) i (row nat1 (List.range' 0 i)) rfl (World.ownsRow.alloc M29.out.own _) ⟨w9.heap.size, 0, none⟩ 1 1 [.int .i64 (i : Int)] rfl rfl NI.out (by simp [Value.oneCell']) (by decide) (by simp [maxLen]; omega) (by omega) (Nat.zero_le _) (w9.heap.size + 1) (by simp) ?_; intro g2 cap2' w10 ho hgr hat hlt; have M2A := hid (M29.out.range (a := 0) (by simpa using ho) (hat.imp id fun e => by omega) H9.out.is.lt H9.out.bel.size); have M1A := hid (M19.out.beside M29.out (by decide) hgr); have HA := hid (H9.out.pushed M29.out hgr); clear ho hgr hat hlt))
        go_roundw
        case rel => exact ⟨i + 1, G5, f5, ml ++ [ov], by go_num, by omega, by omega, by rw [List.length_append, ML.out]; rfl, by have := HA.out; rw [HT3.out, HT4.out] at this; exact this, EE5.out, by rw [row_append]; exact M1A.out, M2A.out⟩
        case measure => simp [intOf]; omega
      · as_aux_lemma =>
        rw [decide_eq_false hlt]
        clear hlt hil
        obtain ⟨k, hk⟩ : ∃ k, k = i := ⟨_, rfl⟩
        subst hk
        obtain ⟨t0, ht0⟩ : ∃ t0, t0 = 4 * k := ⟨_, rfl⟩
        rw [← ht0] at HH
        have ht0' : t0 ≤ 80 := by omega
        clear ht0
        go_wp2
        go_loopw [14, 15] (fun iv _ wr => ∃ (i t : Nat) (f : Nat → Nat → Int) (ml : List (Int × Int)), iv = .int .i64 i ∧ i ≤ k ∧ t ≤ 100 + 2 * i ∧ ml.length = k ∧ HoldA w wr G pa pm (mk 60 k f t) ∧ Ens f ml ∧ Mine w wr G 24 2 (.slice ma k mc) k (row ent2 ml) ∧ Mine w wr G 3 1 (.slice ca k cc) k (row nat1 (List.range' 0 k))) (fun i _ _ => k - (intOf i).toNat)
        case atStart => exact ⟨0, t0, f, ml, rfl, by omega, by omega, ML.out, HH.out, EE.out, M1.out, M2.out⟩
        case round =>
          clear HH EE M1 M2 ML ht0'
          clear t0 f ml
          obtain ⟨i, t, f, ml, rfl, hik, ht, hml, hh, hE, hm, hc⟩ := hrel
          have HH := hid hh
          have EE := hid hE
          have M1 := hid hm
          have M2 := hid hc
          have ML := hid hml
          clear hh hE hm hc hml
          go_upto_region 15 with fail
          go_cut [100] from 91 to 100 (fun v wx => v = .bool (decide (i < k ∧ i < ks.length)) ∧ wx = wr)
          case first =>
            by_cases q1 : i < k
            · have q1' : decide ((i : Int) < (k : Int)) = true := by simp; omega
              by_cases q2 : i < ks.length
              · have q2' : decide ((i : Int) < (ks.length : Int)) = true := by simp; omega
                go_wp2
                go_meet
                case rel => exact ⟨by simp [q1, q2], rfl⟩
              · have q2' : decide ((i : Int) < (ks.length : Int)) = false := by simp; omega
                go_wp2
                go_meet
                case rel => exact ⟨by simp [q1, q2], rfl⟩
            · have q1' : decide ((i : Int) < (k : Int)) = false := by simp; omega
              go_wp2
              go_meet
              case rel => exact ⟨by simp [q1], rfl⟩
          case rest =>
            obtain ⟨rfl, rfl⟩ := hcut
            by_cases hlt : i < k ∧ i < ks.length
            · as_aux_lemma =>
              rw [decide_eq_true hlt]
              obtain ⟨hlt1, hlt2⟩ := hlt
              have hov : ks[i]? = some ks[i] := List.getElem?_eq_getElem hlt2
              obtain ⟨b0, off, ee, hb0, hc0⟩ := HK.out.get HH.out.bel hov
              subst ee
              generalize ks[i] = ov at hov hc0
              have d0 : wc.cell? ⟨b0, off + i, none⟩ = some (.int .i64 ov) := by simpa [oneI] using hc0 0 (by decide)
              have hb0' : b0 < wc.heap.size := Nat.lt_of_lt_of_le hb0 HH.out.bel.size
              have hlt1' : (i : Int) < (k : Int) := by omega
              have hlt2' : (i : Int) < (ks.length : Int) := by omega
              obtain ⟨g1, mc', ee, _, hg1⟩ := M1.out.own.form (by omega)
              cases ee
              obtain ⟨g2, cc', ee, _, hg2⟩ := M2.out.own.form (by omega)
              cases ee
              have hx : ml[i]? = some (ml[i]'(by rw [ML.out]; exact hlt1)) := List.getElem?_eq_getElem _
              generalize (ml[i]'(by rw [ML.out]; exact hlt1)) = x at hx
              obtain ⟨e0, e1, ef⟩ := mine2_at M1.out ML.out hx
              have dc : wc.cell? ⟨g2, i, none⟩ = some (.int .i64 (i : Int)) := by simpa using mine_rng M2.out hlt1
              have HX := hid hx
              have EX := hid (EE.out i x hx)
              have hg1G := M1.out.out g1 rfl
              have hg2G := M2.out.out g2 rfl
              have hg12 := M2.out.apart M1.out (by decide) (g := g1) rfl
              have hb0G : ¬ G b0 := fun q => by have := HH.out.new b0 q; omega
              clear hov hc0 hx e1
              by_cases q : ov ≤ x.1
              · as_aux_lemma =>
                have q' : decide (ov ≤ x.1) = true := by simp [q]
                go_wp2_with fail
                go_quiet (fail)
                have T1 := hid (lowerI ov (HH.out.drewN (nq + 1)) (by omega) (c := i) hlt1)
                rw [EX.out.1, if_pos q, q'] at T1
                go_wp2_with fail
                go_region_held3 (fun w' => w'.cell? ⟨b0, off + i, none⟩ = some (.int .i64 ov) ∧ w'.cell? ⟨g2, i, none⟩ = some (.int .i64 (i : Int))) (exact ⟨d0, dc⟩)
                  (first
                    | (go_at_call 12; (with_reducible refine T1.out.mono ?_); rintro e w5 ⟨rfl, ⟨t5, ht5, h5⟩, k5⟩; have H5 := hid h5; have M15 := hid ((M1.out.plain ((Kept.refl _ _).drewN (nq + 1))).stay k5); have M25 := hid ((M2.out.plain ((Kept.refl _ _).drewN (nq + 1))).stay k5); replace d0 := (k5.cell (p := ⟨b0, off + i, none⟩) hb0' hb0G).trans d0; replace dc := (k5.cell (p := ⟨g2, i, none⟩) hg2 hg2G.1).trans dc; have hb05 := Nat.lt_of_lt_of_le hb0' k5.size; have hg15 := Nat.lt_of_lt_of_le hg1 k5.size; clear h5 k5))
                clear T1 HH M1 M2 e0 ef
                obtain ⟨e0, -, ef⟩ := mine2_at M15.out ML.out HX.out
                replace hb05 : b0 < w5.heap.size := hb05
                replace hg15 : g1 < w5.heap.size := hg15
                go_wp2
                go_roundw
                case rel => exact ⟨i + 1, t5, _, _, by go_num, by omega, by omega, by rw [List.length_set]; exact ML.out, H5.out.stored hg1G (i * 2) _, EE.out.low HX.out ov, M15.out.set2 HX.out ov, M25.out.stored hg12 (i * 2) _⟩
                case measure => simp [intOf]; omega
              · as_aux_lemma =>
                have q' : decide (ov ≤ x.1) = false := by simp [q]
                have Q := hid q
                go_wp2_with fail
                go_quiet (fail)
                have T1 := hid (lowerI ov (HH.out.drewN (nq + 1)) (by omega) (c := i) hlt1)
                rw [EX.out.1, if_neg (show ¬ ov ≤ x.1 by have := Q.out; omega), q'] at T1
                go_wp2_with fail
                go_region_held3 (fun w' => w'.cell? ⟨b0, off + i, none⟩ = some (.int .i64 ov) ∧ w'.cell? ⟨g2, i, none⟩ = some (.int .i64 (i : Int))) (exact ⟨d0, dc⟩)
                  (first
                    | (go_at_call 12; (with_reducible refine T1.out.mono ?_); rintro e w5 ⟨rfl, ⟨t5, ht5, h5⟩, k5⟩; have H5 := hid h5; have M15 := hid ((M1.out.plain ((Kept.refl _ _).drewN (nq + 1))).stay k5); have M25 := hid ((M2.out.plain ((Kept.refl _ _).drewN (nq + 1))).stay k5); replace d0 := (k5.cell (p := ⟨b0, off + i, none⟩) hb0' hb0G).trans d0; replace dc := (k5.cell (p := ⟨g2, i, none⟩) hg2 hg2G.1).trans dc; have hb05 := Nat.lt_of_lt_of_le hb0' k5.size; have hg15 := Nat.lt_of_lt_of_le hg1 k5.size; clear h5 k5))
                clear T1 HH M1 M2 e0 ef
                go_wp2
                go_roundw
                case rel => exact ⟨i + 1, t5, f, ml, by go_num, by omega, by omega, ML.out, H5.out, EE.out, M15.out, M25.out⟩
                case measure => simp [intOf]; omega
            · as_aux_lemma =>
              rw [decide_eq_false hlt]
              clear hlt
              have ht2 : t ≤ 140 := by omega
              clear ht hik
              obtain ⟨w3, hmk, ho3, hk3⟩ := makeI wc k (by omega)
              obtain ⟨ga, hga⟩ : ∃ ga, ga = wc.heap.size := ⟨_, rfl⟩
              rw [← hga] at hmk
              have MA := hid (show Mine w w3 G 3 1 (.slice (some ⟨ga, 0, none⟩) k k) k (row nat1 (List.replicate k 0)) by rw [hga]; exact Mine.made ho3 HH.out.is.lt HH.out.bel.size)
              have n1 := hid (show ∀ q, (Value.slice ma k mc).ownBlock = some q → q < ga from fun q hq => by have := M1.out.lt q hq; omega)
              have n2 := hid (show ∀ q, (Value.slice ca k cc).ownBlock = some q → q < ga from fun q hq => by have := M2.out.lt q hq; omega)
              have H3 := hid (HH.out.plain hk3)
              have M13 := hid (M1.out.plain hk3)
              have M23 := hid (M2.out.plain hk3)
              clear ho3 hk3 hga HH M1 M2
              go_wp2
              go_loopw [16, 18, 19, 20] (fun nv iv _ _ wr => ∃ (i t : Nat) (G : Nat → Prop) (f : Nat → Nat → Int) (al : List Nat), iv = .int .i64 i ∧ i ≤ k ∧ t ≤ 200 + 3 * i ∧ HoldA w wr G pa pm (mk 60 (k + i) f t) ∧ Ens f ml ∧ Frt f k i al ∧ Mine w wr G 24 2 (.slice ma k mc) k (row ent2 ml) ∧ Mine w wr G 3 1 (.slice ca k cc) k (row nat1 (List.range' 0 k)) ∧ Mine w wr G 3 1 (.slice (some ⟨ga, 0, none⟩) k k) k (row nat1 al) ∧ Mine w wr G 3 1 nv i (row nat1 (List.range' k i)) ∧ ∀ q, nv.ownBlock = some q → ga < q) (fun _ i _ _ _ => k - (intOf i).toNat)
              case atStart => exact ⟨0, t, G, f, List.replicate k 0, rfl, by omega, by omega, H3.out, EE.out, ⟨by simp, fun j hj => by omega⟩, M13.out, M23.out, MA.out, Mine.nil _ _ _ _ _, fun q hq => by cases hq⟩
              case round =>
                clear H3 EE M13 M23 MA ht2 hmk
                obtain ⟨i, t, G, f, al, rfl, hik, ht, hh, hE, hF, hm, hc, ha, hn, hng⟩ := hrel
                have HH := hid hh
                have EE := hid hE
                have FF := hid hF
                have M1 := hid hm
                have M2 := hid hc
                have M3 := hid ha
                have M4 := hid hn
                have N4 := hid hng
                obtain ⟨na, nc, rfl⟩ := own_form hn.own
                clear hh hE hm hc ha hn hF hng
                by_cases hlt : i < k
                · as_aux_lemma =>
                  have hlt' : (i : Int) < (k : Int) := by omega
                  obtain ⟨m1, hm1⟩ : ∃ m1, m1 = k + i := ⟨_, rfl⟩
                  have HM1 := hid hm1
                  rw [← hm1] at HH
                  have hm1k : m1 ≤ 40 := by omega
                  have hm1i : i < m1 := by omega
                  obtain ⟨g2, cc', ee, _, hg2⟩ := M2.out.own.form (by omega)
                  cases ee
                  clear hm1
                  go_wp2_with fail
                  refine (takeI HH.out (by omega) (by omega)).mono ?_
                  rintro e w4 ⟨rfl, h4, k4⟩
                  have H4 := hid h4
                  have M14 := hid (M1.out.call k4)
                  have M24 := hid (M2.out.call k4)
                  have M34 := hid (M3.out.call k4)
                  have M44 := hid (M4.out.call k4)
                  generalize Grow G wr w4 = G4 at H4 M14 M24 M34 M44
                  clear h4 k4 HH M1 M2 M3 M4 hg2
                  have dc : w4.cell? ⟨g2, i, none⟩ = some (.int .i64 (i : Int)) := by simpa using mine_rng M24.out hlt
                  have hg2 : g2 < w4.heap.size := M24.out.lt g2 rfl
                  go_wp2_with fail
                  refine (putI H4.out (by omega) (c := m1) (i := i) (by omega) (by omega)).mono ?_
                  rintro e w5 ⟨rfl, h5, k5⟩
                  have H5 := hid h5
                  have M15 := hid (M14.out.stay k5)
                  have M25 := hid (M24.out.stay k5)
                  have M35 := hid (M34.out.stay k5)
                  have M45 := hid (M44.out.stay k5)
                  clear h5 k5 H4 M14 M24 M34 M44 dc hg2
                  have hga5 : ga < w5.heap.size := M35.out.lt ga rfl
                  have NW : Hid (∀ j u, [Value.int .i64 (m1 : Int)][j]? = some u → (w5.alloc (.cells #[.int .i64 (m1 : Int)] 3)).cell? ((⟨w5.heap.size, 0, none⟩ : Addr).add j) = some u) := World.news_of_block (heap_alloc_new w5 (.cells #[.int .i64 (m1 : Int)] 3))
                  have hin := M45.out.own.1
                  have hy : al[i]? = some (al[i]'(by rw [FF.out.1]; exact hlt)) := List.getElem?_eq_getElem _
                  generalize (al[i]'(by rw [FF.out.1]; exact hlt)) = y at hy
                  have HY := hid hy
                  have hal := hid FF.out.1
                  clear hy
                  go_wp2_with (at_builtin; refine wpList_append_lies _ rfl (.tmp 157) (.tmp 159) 26 rfl 0 3 ti _ 1 8 Try.underlying26 HT.out Z0.out Z1.out Z2.out rfl (by decide) (.slice na i nc) i (row nat1 (List.range' k i)) rfl (World.ownsRow.alloc M45.out.own _) ⟨w5.heap.size, 0, none⟩ 1 1 [.int .i64 (m1 : Int)] rfl rfl NW.out (by simp [Value.oneCell']) (by decide) (by simp [maxLen]; omega) (by omega) (Nat.zero_le _) (w5.heap.size + 1) (by simp) ?_; intro g4 cap4 w6 ho hgr hat hlt; have M36 := hid (M35.out.grown hgr (fun k hk q => by cases hk; exact Nat.lt_irrefl _ (N4.out _ q))); have da : w6.cell? ⟨ga, i, none⟩ = some (.int .i64 (y : Int)) := mine_at M36.out hal.out.symm HY.out; have df : w6.frozen? ⟨ga, i, none⟩ = false := M36.out.own.frozenAt i; have hga6 : ga < w6.heap.size := M36.out.lt ga rfl; have GR := hid hgr; have HO := hid ho; have HA := hid hat; clear ho hgr hat hlt)
                  have M16 := hid (M15.out.beside M45.out (by decide) GR.out)
                  have M26 := hid (M25.out.grown GR.out (fun q hq z => by have := n2.out q hq; have := N4.out q z; omega))
                  have M46 := hid (M45.out.range (a := k) (g := g4) (cap := cap4) (by rw [← HM1.out]; exact HO.out) (HA.out.imp id fun e => by omega) H5.out.is.lt H5.out.bel.size)
                  have H6 := hid (H5.out.pushed M45.out GR.out)
                  have hg4 : ga < g4 := by
                    rcases HA.out with q | q
                    · exact N4.out g4 q
                    · omega
                  go_roundw
                  case rel =>
                    refine ⟨i + 1, t + 1 + 2, G4, put (put (put0 f m1) m1 6 (i : Int)) i 9 (m1 : Int), al.set i i, by go_num, by omega, by omega, ?_, ?_, ?_, M16.out.stored (fun q => by have := n1.out ga q; omega) i _, M26.out.stored (fun q => by have := n2.out ga q; omega) i _, M36.out.set1 HY.out i, M46.out.stored (fun q => by have q' : g4 = ga := Option.some.inj q; omega) i _, fun q hq => by cases hq; exact hg4⟩
                    · have := H6.out.stored (M36.out.out ga rfl) i (.int .i64 (i : Int))
                      rw [show k + (i + 1) = m1 + 1 by rw [HM1.out]; omega]
                      exact this
                    · rw [HM1.out]
                      exact ((EE.out.take (m := k + i) (by rw [ML.out]; omega)).put (by decide) (by decide)).put (by decide) (by decide)
                    · rw [HM1.out]
                      exact FF.out.step hlt
                  case measure => simp [intOf]; omega
                · as_aux_lemma =>
                  obtain rfl : k = i := by omega
                  have LL := hid FF.out.full
                  have n4 := hid N4.out
                  have ht3 : t ≤ 260 := by omega
                  clear hlt hik ht FF
                  go_wp2
                  go_loopw [21, 22, 23, 24] (fun iv _ _ _ wr => ∃ (i t : Nat) (f : Nat → Nat → Int) (al : List Nat), iv = .int .i64 i ∧ i ≤ 40 ∧ t ≤ 300 + 6 * i ∧ HoldA w wr G pa pm (mk 60 (k + k) f t) ∧ Ens f ml ∧ Lnk f k al ∧ Mine w wr G 24 2 (.slice ma k mc) k (row ent2 ml) ∧ Mine w wr G 3 1 (.slice ca k cc) k (row nat1 (List.range' 0 k)) ∧ Mine w wr G 3 1 (.slice (some ⟨ga, 0, none⟩) k k) k (row nat1 al) ∧ Mine w wr G 3 1 (.slice na k nc) k (row nat1 (List.range' k k))) (fun i _ _ _ _ => 40 - (intOf i).toNat)
                  case atStart => exact ⟨0, t, f, al, rfl, by omega, by omega, HH.out, EE.out, LL.out, M1.out, M2.out, M3.out, M4.out⟩
                  case round =>
                    clear HH EE LL M1 M2 M3 M4 ht3
                    obtain ⟨i, t, f, al, rfl, hi40, ht, hh, hE, hL, hm, hc, ha, hn⟩ := hrel
                    have HH := hid hh
                    have EE := hid hE
                    have LL := hid hL
                    have M1 := hid hm
                    have M2 := hid hc
                    have M3 := hid ha
                    have M4 := hid hn
                    clear hh hE hm hc ha hn hL
                    go_upto_region 34 with fail
                    go_cut [178] from 165 to 178 (fun v wx => v = .bool (decide (i + 1 < sw.length ∧ i < 40 ∧ 0 < k)) ∧ wx = wr)
                    case first =>
                      by_cases q1 : i + 1 < sw.length
                      · have q1' : decide ((i : Int) + 1 < (sw.length : Int)) = true := by simp; omega
                        by_cases q2 : i < 40
                        · have q2' : decide ((i : Int) < 40) = true := by simp; omega
                          by_cases q3 : 0 < k
                          · have q3' : decide ((0 : Int) < (k : Int)) = true := by simp; omega
                            go_wp2
                            go_meet
                            case rel => exact ⟨by simp [q1, q2, q3], rfl⟩
                          · have q3' : decide ((0 : Int) < (k : Int)) = false := by simp; omega
                            go_wp2
                            go_meet
                            case rel => exact ⟨by simp [q1, q2, q3], rfl⟩
                        · have q2' : decide ((i : Int) < 40) = false := by simp; omega
                          go_wp2
                          go_meet
                          case rel => exact ⟨by simp [q1, q2], rfl⟩
                      · have q1' : decide ((i : Int) + 1 < (sw.length : Int)) = false := by simp; omega
                        go_wp2
                        go_meet
                        case rel => exact ⟨by simp [q1], rfl⟩
                    case rest =>
                      obtain ⟨rfl, rfl⟩ := hcut
                      by_cases hlt : i + 1 < sw.length ∧ i < 40 ∧ 0 < k
                      · as_aux_lemma =>
                        rw [decide_eq_true hlt]
                        obtain ⟨hlt1, hlt2, hlt3⟩ := hlt
                        have hov : sw[i]? = some sw[i] := List.getElem?_eq_getElem (by omega)
                        have hov1 : sw[i + 1]? = some sw[i + 1] := List.getElem?_eq_getElem hlt1
                        have OI := hid (HSI.out sw[i] (List.getElem_mem _))
                        have OI1 := hid (HSI.out sw[i + 1] (List.getElem_mem _))
                        obtain ⟨b0, off, ee, hb0, hc0⟩ := HS.out.get HH.out.bel hov
                        obtain ⟨b0', off', ee', _, hc1⟩ := HS.out.get HH.out.bel hov1
                        rw [ee] at ee'
                        cases ee'
                        subst ee
                        generalize sw[i] = ov at hov hc0 OI
                        generalize sw[i + 1] = ov1 at hov1 hc1 OI1
                        obtain ⟨j1, hj1⟩ : ∃ j1, j1 = i + 1 := ⟨_, rfl⟩
                        have HJ1 := hid hj1
                        have hij : (i : Int) + 1 = (j1 : Int) := by omega
                        have hwj : IntKind.i64.wrap (j1 : Int) = (j1 : Int) := IntWalk.i64_in _ (by omega)
                        have hwk : IntKind.i64.wrap ((k : Int) - 1) = (k : Int) - 1 := IntWalk.i64_in _ (by omega)
                        have d0 : wc.cell? ⟨b0, off + i, none⟩ = some (.int .i64 ov) := by simpa [oneI] using hc0 0 (by decide)
                        have d1 : wc.cell? ⟨b0, off + j1, none⟩ = some (.int .i64 ov1) := by rw [hj1]; simpa [oneI] using hc1 0 (by decide)
                        have hb0' : b0 < wc.heap.size := Nat.lt_of_lt_of_le hb0 HH.out.bel.size
                        have hs1 : (i : Int) < (sw.length : Int) := by omega
                        have hs2 : (j1 : Int) < (sw.length : Int) := by omega
                        have T1 := hid (within_any ov OI.out 0 ((k : Int) - 1) (by decide) (by omega) (by omega) wc.drew)
                        have T2 := hid (within_any ov1 OI1.out 0 ((k : Int) - 1) (by decide) (by omega) (by omega) wc.drew)
                        clear hov hov1 hc0 hc1 hj1
                        go_wp2_with fail
                        go_region_held3 (fun w' => w'.cell? ⟨b0, off + i, none⟩ = some (.int .i64 ov) ∧ w'.cell? ⟨b0, off + j1, none⟩ = some (.int .i64 ov1)) (exact ⟨d0, d1⟩)
                          (first
                            | (go_at_call 15; (with_reducible refine T1.out.mono ?_); rintro e w5 ⟨r1, rfl, r1a, r1b, rfl⟩)
                            | (go_at_call 15; (with_reducible refine T2.out.mono ?_); rintro e w6 ⟨r2, rfl, r2a, r2b, rfl⟩))
                        clear T1 T2 d0 d1
                        have H5 := hid (HH.out.plain (Kept.refl _ _).drew)
                        have M15 := hid (M1.out.plain (Kept.refl _ _).drew)
                        have M25 := hid (M2.out.plain (Kept.refl _ _).drew)
                        have M35 := hid (M3.out.plain (Kept.refl _ _).drew)
                        have M45 := hid (M4.out.plain (Kept.refl _ _).drew)
                        clear HH M1 M2 M3 M4
                        obtain ⟨x, rfl⟩ : ∃ x : Nat, r1 = (x : Int) := ⟨r1.toNat, by omega⟩
                        obtain ⟨y, rfl⟩ : ∃ y : Nat, r2 = (y : Int) := ⟨r2.toNat, by omega⟩
                        have hxk : x < k := by omega
                        have hyk : y < k := by omega
                        have hxk' : (x : Int) < (k : Int) := by omega
                        have hyk' : (y : Int) < (k : Int) := by omega
                        generalize wc.drew = wd at H5 M15 M25 M35 M45 ⊢
                        have hax : al[x]? = some (al[x]'(by rw [LL.out.1]; exact hxk)) := List.getElem?_eq_getElem _
                        generalize (al[x]'(by rw [LL.out.1]; exact hxk)) = a at hax
                        have hay : al[y]? = some (al[y]'(by rw [LL.out.1]; exact hyk)) := List.getElem?_eq_getElem _
                        generalize (al[y]'(by rw [LL.out.1]; exact hyk)) = b at hay
                        have AX := hid hax
                        have AY := hid hay
                        have AL := hid LL.out.1
                        obtain ⟨gn, nc', ee, _, hgn⟩ := M45.out.own.form (by omega)
                        cases ee
                        obtain ⟨nx, hnx⟩ : ∃ nx, nx = k + x := ⟨_, rfl⟩
                        obtain ⟨ny, hny⟩ : ∃ ny, ny = k + y := ⟨_, rfl⟩
                        have dn1 : wd.cell? ⟨gn, x, none⟩ = some (.int .i64 (nx : Int)) := by rw [hnx]; exact mine_rng M45.out hxk
                        have dn2 : wd.cell? ⟨gn, y, none⟩ = some (.int .i64 (ny : Int)) := by rw [hny]; exact mine_rng M45.out hyk
                        have hgnG := (M45.out.out gn rfl).1
                        have T1 := hid (swapAt (H5.out.plain (Kept.refl _ _).drew) (by omega) (by omega) EE.out LL.out hxk hyk hax hay)
                        rw [← hnx, ← hny] at T1
                        have SE := hid (show (mk 60 (k + k) f t).steps = t from rfl)
                        clear hax hay hnx hny r1a r1b r2a r2b hb0' hs1 hs2
                        go_wp2_with fail
                        refine (meterA pa pm _ G wd H5.out.is).mono ?_
                        rintro e w7 ⟨rfl, rfl⟩
                        go_wp2_with fail
                        refine (stepsA pa pm _ G _ H5.out.is).mono ?_
                        rintro e w8 ⟨rfl, rfl⟩
                        rw [SE.out]
                        go_wp2_with fail
                        go_region_held3 (fun w' => w'.cell? ⟨gn, x, none⟩ = some (.int .i64 (nx : Int)) ∧ w'.cell? ⟨gn, y, none⟩ = some (.int .i64 (ny : Int))) (exact ⟨dn1, dn2⟩)
                          (first
                            | (go_at_call 16; (with_reducible refine T1.out.mono ?_); rintro e w9 ⟨rfl, ⟨f9, t9, ht9, ht9', h9, e9, l9⟩, k9⟩; have H9 := hid h9; have E9 := hid e9; have L9 := hid l9; have M19 := hid ((M15.out.plain ((Kept.refl _ _).drew)).stay k9); have M29 := hid ((M25.out.plain ((Kept.refl _ _).drew)).stay k9); have M39 := hid ((M35.out.plain ((Kept.refl _ _).drew)).stay k9); have M49 := hid ((M45.out.plain ((Kept.refl _ _).drew)).stay k9); replace dn1 := (k9.cell (p := ⟨gn, x, none⟩) hgn hgnG).trans dn1; replace dn2 := (k9.cell (p := ⟨gn, y, none⟩) hgn hgnG).trans dn2; clear h9 e9 l9 k9))
                        clear T1 H5 M15 M25 M35 M45 EE LL dn1 dn2 hgn
                        have SE9 := hid (show (mk 60 (k + k) f9 t9).steps = t9 from rfl)
                        obtain ⟨dd, hdd⟩ : ∃ dd : Nat, (t9 : Int) - (t : Int) = (dd : Int) := ⟨t9 - t, by omega⟩
                        have hdd6 : dd ≤ 6 := by omega
                        have hdd' : decide ((20 : Int) < (dd : Int)) = false := by simp; omega
                        have ht9b : t9 ≤ 1000 := by omega
                        go_wp2_with fail
                        refine (meterA pa pm _ G w9 H9.out.is).mono ?_
                        rintro e w10 ⟨rfl, rfl⟩
                        go_wp2_with fail
                        refine (stepsA pa pm _ G _ H9.out.is).mono ?_
                        rintro e w11 ⟨rfl, rfl⟩
                        rw [SE9.out]
                        have hga : ga < w11.heap.size := M39.out.lt ga rfl
                        have da1 : w11.cell? ⟨ga, x, none⟩ = some (.int .i64 (a : Int)) := mine_at M39.out AL.out.symm AX.out
                        have da2 : w11.cell? ⟨ga, y, none⟩ = some (.int .i64 (b : Int)) := mine_at M39.out AL.out.symm AY.out
                        have df1 : w11.frozen? ⟨ga, x, none⟩ = false := M39.out.own.frozenAt x
                        have df2 : w11.frozen? ⟨ga, y, none⟩ = false := M39.out.own.frozenAt y
                        have MB := hid (M39.out.set1 AX.out b)
                        have AZ := hid (show (al.set x b)[y]? = some b by
                          by_cases e : x = y
                          · subst e; exact List.getElem?_set_self (by rw [AL.out]; exact hxk)
                          · rw [List.getElem?_set_ne e]; exact AY.out)
                        have dz : (w11.setCell ⟨ga, x, none⟩ (.int .i64 (b : Int))).cell? ⟨ga, y, none⟩ = some (.int .i64 (b : Int)) := mine_at MB.out (by rw [List.length_set]; exact AL.out.symm) AZ.out
                        have dzf : (w11.setCell ⟨ga, x, none⟩ (.int .i64 (b : Int))).frozen? ⟨ga, y, none⟩ = false := MB.out.own.frozenAt y
                        go_wp2
                        go_region
                        go_wp2
                        go_roundw
                        case rel =>
                          have q1 : (Value.slice ma k mc).ownBlock ≠ some ga := fun q => by have := n1.out ga q; omega
                          have q2 : (Value.slice ca k cc).ownBlock ≠ some ga := fun q => by have := n2.out ga q; omega
                          have q4 : (Value.slice (some ⟨gn, 0, none⟩) k nc).ownBlock ≠ some ga := fun q => by have q' : gn = ga := Option.some.inj q; have := n4.out gn rfl; omega
                          have qa := M39.out.out ga rfl
                          exact ⟨i + 1, t9, f9, (al.set x b).set y a, by rw [HJ1.out], by omega, by omega, (((H9.out.stored qa x _).stored qa y _).drewN 1), E9.out, L9.out, ((M19.out.stored q1 x _).stored q1 y _).plain (Kept.refl _ _).drew, ((M29.out.stored q2 x _).stored q2 y _).plain (Kept.refl _ _).drew, (MB.out.set1 AZ.out a).plain (Kept.refl _ _).drew, ((M49.out.stored q4 x _).stored q4 y _).plain (Kept.refl _ _).drew⟩
                        case measure => simp [intOf]; omega
                      · as_aux_lemma =>
                        rw [decide_eq_false hlt]
                        have ht4 : t ≤ 540 := by omega
                        clear hlt ht hi40
                        go_wp2
                        go_loopw [25, 26, 27] (fun iv _ _ wr => ∃ (x t : Nat), iv = .int .i64 x ∧ x ≤ k ∧ t ≤ 600 + 100 * x ∧ HoldA w wr G pa pm (mk 60 (k + k) f t) ∧ Mine w wr G 24 2 (.slice ma k mc) k (row ent2 ml) ∧ Mine w wr G 3 1 (.slice ca k cc) k (row nat1 (List.range' 0 k)) ∧ Mine w wr G 3 1 (.slice (some ⟨ga, 0, none⟩) k k) k (row nat1 al) ∧ Mine w wr G 3 1 (.slice na k nc) k (row nat1 (List.range' k k))) (fun x _ _ _ => k - (intOf x).toNat)
                        case atStart => exact ⟨0, t, rfl, by omega, by omega, HH.out, M1.out, M2.out, M3.out, M4.out⟩
                        case round =>
                          clear HH M1 M2 M3 M4 ht4
                          obtain ⟨x, t, rfl, hxk, ht, hh, hm, hc, ha, hn⟩ := hrel
                          have HH := hid hh
                          have M1 := hid hm
                          have M2 := hid hc
                          have M3 := hid ha
                          have M4 := hid hn
                          clear hh hm hc ha hn
                          by_cases hlt : x < k
                          · as_aux_lemma =>
                            have hlt' : (x : Int) < (k : Int) := by omega
                            obtain ⟨g1, mc', ee, _, hg1⟩ := M1.out.own.form (by omega)
                            cases ee
                            obtain ⟨g2, cc', ee, _, hg2⟩ := M2.out.own.form (by omega)
                            cases ee
                            obtain ⟨gn, nc', ee, _, hgn⟩ := M4.out.own.form (by omega)
                            cases ee
                            have hp : ml[x]? = some (ml[x]'(by rw [ML.out]; exact hlt)) := List.getElem?_eq_getElem _
                            generalize (ml[x]'(by rw [ML.out]; exact hlt)) = p at hp
                            have HP := hid hp
                            have EP := hid (EE.out x p hp)
                            have hax : al[x]? = some (al[x]'(by rw [LL.out.1]; exact hlt)) := List.getElem?_eq_getElem _
                            generalize (al[x]'(by rw [LL.out.1]; exact hlt)) = a at hax
                            obtain ⟨hak, a2', a3⟩ := LL.out.at hlt hax
                            have A2 := hid a2'
                            have A3 := hid a3
                            have hak' : (a : Int) < (k : Int) := by omega
                            obtain ⟨nx, hnx⟩ : ∃ nx, nx = k + x := ⟨_, rfl⟩
                            obtain ⟨e0, e1, _⟩ := mine2_at M1.out ML.out hp
                            have dc : wr.cell? ⟨g2, x, none⟩ = some (.int .i64 (x : Int)) := by simpa using mine_rng M2.out hlt
                            have dca : wr.cell? ⟨g2, a, none⟩ = some (.int .i64 (a : Int)) := by simpa using mine_rng M2.out hak
                            have dn : wr.cell? ⟨gn, x, none⟩ = some (.int .i64 (nx : Int)) := by rw [hnx]; exact mine_rng M4.out hlt
                            have da : wr.cell? ⟨ga, x, none⟩ = some (.int .i64 (a : Int)) := mine_at M3.out LL.out.1.symm hax
                            have hga : ga < wr.heap.size := M3.out.lt ga rfl
                            have G1 := (M1.out.out g1 rfl).1
                            have G2 := (M2.out.out g2 rfl).1
                            have GN := (M4.out.out gn rfl).1
                            have GA := (M3.out.out ga rfl).1
                            have T1 := hid (entryI (HH.out.plain (Kept.refl _ _).drew) (by omega) (c := x) (by omega))
                            rw [EP.out.1, EP.out.2] at T1
                            have T2' := hid (fun (wx : World) (h : HoldA w wx G pa pm (mk 60 (k + k) f (t + 2))) => cellI (d := a) 6 h (by omega) (c := nx) (by omega) (by decide) (by rw [hnx]; exact A2.out) (by omega))
                            have T3' := hid (fun (wx : World) (h : HoldA w wx G pa pm (mk 60 (k + k) f (t + 2 + 1))) => nodeI (d := nx) h (by omega) (c := a) (by omega) (by rw [hnx]; exact A3.out) (by omega))
                            have hn : ∀ w, (binOp .neq 24 (.agg #[.int .i64 p.1, .int .i64 p.2]) (.agg #[.int .i64 p.1, .int .i64 p.2])).run Try.prog w = .ok (.bool false) w := fun w => by rw [neq24]; simp
                            clear hp hax a2' a3 hnx
                            go_wp2_with fail
                            go_region_held3 (fun w' => w'.cell? ⟨g1, x * 2, none⟩ = some (.int .i64 p.1) ∧ w'.cell? ⟨g1, x * 2 + 1, none⟩ = some (.int .i64 p.2) ∧ w'.cell? ⟨g2, x, none⟩ = some (.int .i64 (x : Int)) ∧ w'.cell? ⟨g2, a, none⟩ = some (.int .i64 (a : Int)) ∧ w'.cell? ⟨gn, x, none⟩ = some (.int .i64 (nx : Int)) ∧ w'.cell? ⟨ga, x, none⟩ = some (.int .i64 (a : Int))) (exact ⟨e0, e1, dc, dca, dn, da⟩)
                              (first
                                | (go_at_call 17; (with_reducible refine T1.out.mono ?_); rintro e w5 ⟨rfl, h5, k5⟩; have T2 := hid (T2'.out w5 h5); have M15 := hid ((M1.out.plain ((Kept.refl _ _).drew)).stay k5); have M25 := hid ((M2.out.plain ((Kept.refl _ _).drew)).stay k5); have M35 := hid ((M3.out.plain ((Kept.refl _ _).drew)).stay k5); have M45 := hid ((M4.out.plain ((Kept.refl _ _).drew)).stay k5); replace e0 := (k5.cell (p := ⟨g1, x * 2, none⟩) hg1 G1).trans e0; replace e1 := (k5.cell (p := ⟨g1, x * 2 + 1, none⟩) hg1 G1).trans e1; replace dc := (k5.cell (p := ⟨g2, x, none⟩) hg2 G2).trans dc; replace dca := (k5.cell (p := ⟨g2, a, none⟩) hg2 G2).trans dca; replace dn := (k5.cell (p := ⟨gn, x, none⟩) hgn GN).trans dn; replace da := (k5.cell (p := ⟨ga, x, none⟩) hga GA).trans da; clear h5 k5)
                                | (go_at_call 18; refine T2.out.mono ?_; rintro e w6 ⟨rfl, h6, k6⟩; have T3 := hid (T3'.out w6 h6); have M16 := hid (M15.out.stay k6); have M26 := hid (M25.out.stay k6); have M36 := hid (M35.out.stay k6); have M46 := hid (M45.out.stay k6); replace e0 := (k6.cell (p := ⟨g1, x * 2, none⟩) (M15.out.lt g1 rfl) G1).trans e0; replace e1 := (k6.cell (p := ⟨g1, x * 2 + 1, none⟩) (M15.out.lt g1 rfl) G1).trans e1; replace dc := (k6.cell (p := ⟨g2, x, none⟩) (M25.out.lt g2 rfl) G2).trans dc; replace dca := (k6.cell (p := ⟨g2, a, none⟩) (M25.out.lt g2 rfl) G2).trans dca; replace dn := (k6.cell (p := ⟨gn, x, none⟩) (M45.out.lt gn rfl) GN).trans dn; replace da := (k6.cell (p := ⟨ga, x, none⟩) (M35.out.lt ga rfl) GA).trans da; clear h6 k6)
                                | (go_at_call 11; (with_reducible refine T3.out.mono ?_); rintro e w7 ⟨rfl, h7, k7⟩; have H7 := hid h7; have M17 := hid (M16.out.stay k7); have M27 := hid (M26.out.stay k7); have M37 := hid (M36.out.stay k7); have M47 := hid (M46.out.stay k7); replace e0 := (k7.cell (p := ⟨g1, x * 2, none⟩) (M16.out.lt g1 rfl) G1).trans e0; replace e1 := (k7.cell (p := ⟨g1, x * 2 + 1, none⟩) (M16.out.lt g1 rfl) G1).trans e1; replace dc := (k7.cell (p := ⟨g2, x, none⟩) (M26.out.lt g2 rfl) G2).trans dc; replace dca := (k7.cell (p := ⟨g2, a, none⟩) (M26.out.lt g2 rfl) G2).trans dca; replace dn := (k7.cell (p := ⟨gn, x, none⟩) (M46.out.lt gn rfl) GN).trans dn; replace da := (k7.cell (p := ⟨ga, x, none⟩) (M36.out.lt ga rfl) GA).trans da; clear h7 k7))
                            clear T1 T2 T2' T3 T3' HH M1 M2 M3 M4 M15 M25 M35 M45 M16 M26 M36 M46 e0 e1 dc dca dn da hn hg1 hg2 hgn hga A2 A3 hak hak'
                            as_aux_lemma =>
                            go_wp2
                            go_loopw [26, 27] (fun yv _ ws => ∃ (y t' : Nat), yv = .int .i64 y ∧ y ≤ k ∧ t' ≤ t + 4 + 4 * y ∧ HoldA w ws G pa pm (mk 60 (k + k) f t') ∧ Mine w ws G 24 2 (.slice (some ⟨g1, 0, none⟩) k mc) k (row ent2 ml) ∧ Mine w ws G 3 1 (.slice (some ⟨g2, 0, none⟩) k cc) k (row nat1 (List.range' 0 k)) ∧ Mine w ws G 3 1 (.slice (some ⟨ga, 0, none⟩) k k) k (row nat1 al) ∧ Mine w ws G 3 1 (.slice (some ⟨gn, 0, none⟩) k nc) k (row nat1 (List.range' k k))) (fun y _ _ => k - (intOf y).toNat)
                            case atStart => exact ⟨0, t + 2 + 1 + 1, rfl, by omega, by omega, H7.out, M17.out, M27.out, M37.out, M47.out⟩
                            case round =>
                              clear H7 M17 M27 M37 M47
                              obtain ⟨y, t', rfl, hyk, ht', hh, hm, hc, ha, hn⟩ := hrel
                              have HH := hid hh
                              have M1 := hid hm
                              have M2 := hid hc
                              have M3 := hid ha
                              have M4 := hid hn
                              clear hh hm hc ha hn
                              by_cases hly : y < k
                              · have hly' : (y : Int) < (k : Int) := by omega
                                have hq : ml[y]? = some (ml[y]'(by rw [ML.out]; exact hly)) := List.getElem?_eq_getElem _
                                generalize (ml[y]'(by rw [ML.out]; exact hly)) = q at hq
                                have EQ := hid (EE.out y q hq)
                                obtain ⟨e0, e1, _⟩ := mine2_at M1.out ML.out HP.out
                                obtain ⟨h0, h1, _⟩ := mine2_at M1.out ML.out hq
                                have dcx : wr.cell? ⟨g2, x, none⟩ = some (.int .i64 (x : Int)) := by simpa using mine_rng M2.out hlt
                                have dcy : wr.cell? ⟨g2, y, none⟩ = some (.int .i64 (y : Int)) := by simpa using mine_rng M2.out hly
                                have hg1 : g1 < wr.heap.size := M1.out.lt g1 rfl
                                have hg2 : g2 < wr.heap.size := M2.out.lt g2 rfl
                                have BF := hid (befI_of EP.out EQ.out)
                                clear hq
                                go_upto_region 50 with fail
                                go_cut [27] from 286 to 316 (fun v wx => v = .bool (befI f x y) ∧ Kept (fun _ => False) wr wx)
                                case first =>
                                  have TB := hid (refBefore_kept p q wr.drew)
                                  by_cases c1 : bef p.1 p.2 q.1 q.2 = true
                                  · rw [c1] at TB BF
                                    have BF' := hid (show befI f x y = true by rw [BF.out]; rfl)
                                    clear c1 BF
                                    as_aux_lemma =>
                                    refine wp_region_noPanic ?_
                                    refine wp_region_held_drew (S := (fun w' => w'.cell? ⟨g1, x * 2, none⟩ = some (.int .i64 p.1) ∧ w'.cell? ⟨g1, x * 2 + 1, none⟩ = some (.int .i64 p.2) ∧ w'.cell? ⟨g1, y * 2, none⟩ = some (.int .i64 q.1) ∧ w'.cell? ⟨g1, y * 2 + 1, none⟩ = some (.int .i64 q.2) ∧ w'.cell? ⟨g2, x, none⟩ = some (.int .i64 (x : Int)) ∧ w'.cell? ⟨g2, y, none⟩ = some (.int .i64 (y : Int)))) (by kernel_rfl) ⟨e0, e1, h0, h1, dcx, dcy⟩ (fun hHeld => ?_)
                                    refine ord_take 0 286 (.slice (some ⟨g1, 0, none⟩) k mc) rfl rfl (by kernel_rfl) (by kernel_rfl) (by kernel_rfl) (fun _ _ _ h => h) (by rfl) (fun wS hS => by (try dsimp only at hS); go_split_ands; go_simp) (by assumption) ?_
                                    simp only [Act.put, List.setIfInBounds_toArray, List.set_cons_zero, List.set_cons_succ]
                                    refine ord_take 1 287 (.int .i64 (x : Int)) rfl rfl (by kernel_rfl) (by kernel_rfl) (by kernel_rfl) (fun _ _ _ h => h) (by rfl) (fun wS hS => by (try dsimp only at hS); go_split_ands; go_simp) (by assumption) ?_
                                    simp only [Act.put, List.setIfInBounds_toArray, List.set_cons_zero, List.set_cons_succ]
                                    refine ord_take 2 288 (.pointer (some ⟨g1, x * 2, none⟩)) rfl rfl (by kernel_rfl) (by kernel_rfl) (by kernel_rfl) (fun _ _ _ h => h) (by rfl) (fun wS hS => by (try dsimp only at hS); go_split_ands; go_simp) (by assumption) ?_
                                    simp only [Act.put, List.setIfInBounds_toArray, List.set_cons_zero, List.set_cons_succ]
                                    refine ord_take 3 289 (.agg #[.int .i64 p.1, .int .i64 p.2]) rfl rfl (by kernel_rfl) (by kernel_rfl) (by kernel_rfl) (fun _ _ _ h => h) (by rfl) (fun wS hS => by (try dsimp only at hS); go_split_ands; go_simp) (by assumption) ?_
                                    simp only [Act.put, List.setIfInBounds_toArray, List.set_cons_zero, List.set_cons_succ]
                                    refine ord_take 4 290 (.slice (some ⟨g1, 0, none⟩) k mc) rfl rfl (by kernel_rfl) (by kernel_rfl) (by kernel_rfl) (fun _ _ _ h => h) (by rfl) (fun wS hS => by (try dsimp only at hS); go_split_ands; go_simp) (by assumption) ?_
                                    simp only [Act.put, List.setIfInBounds_toArray, List.set_cons_zero, List.set_cons_succ]
                                    refine ord_take 5 291 (.int .i64 (y : Int)) rfl rfl (by kernel_rfl) (by kernel_rfl) (by kernel_rfl) (fun _ _ _ h => h) (by rfl) (fun wS hS => by (try dsimp only at hS); go_split_ands; go_simp) (by assumption) ?_
                                    simp only [Act.put, List.setIfInBounds_toArray, List.set_cons_zero, List.set_cons_succ]
                                    refine ord_take 6 292 (.pointer (some ⟨g1, y * 2, none⟩)) rfl rfl (by kernel_rfl) (by kernel_rfl) (by kernel_rfl) (fun _ _ _ h => h) (by rfl) (fun wS hS => by (try dsimp only at hS); go_split_ands; go_simp) (by assumption) ?_
                                    simp only [Act.put, List.setIfInBounds_toArray, List.set_cons_zero, List.set_cons_succ]
                                    refine ord_take 7 293 (.agg #[.int .i64 q.1, .int .i64 q.2]) rfl rfl (by kernel_rfl) (by kernel_rfl) (by kernel_rfl) (fun _ _ _ h => h) (by rfl) (fun wS hS => by (try dsimp only at hS); go_split_ands; go_simp) (by assumption) ?_
                                    simp only [Act.put, List.setIfInBounds_toArray, List.set_cons_zero, List.set_cons_succ]
                                    refine wpAnyH_ready (rs := [8]) (by kernel_rfl) (by simp) ?_
                                    refine AllReadyH.cons rfl (fun K hK => ?_) AllReadyH.nil
                                    go_simp
                                    refine TB.out.mono ?_
                                    rintro e w9 ⟨rfl, k9⟩
                                    have K9 := hid k9
                                    replace e0 := (k9.cell (p := ⟨g1, x * 2, none⟩) hg1 (fun q => q)).trans e0
                                    replace e1 := (k9.cell (p := ⟨g1, x * 2 + 1, none⟩) hg1 (fun q => q)).trans e1
                                    replace h0 := (k9.cell (p := ⟨g1, y * 2, none⟩) hg1 (fun q => q)).trans h0
                                    replace h1 := (k9.cell (p := ⟨g1, y * 2 + 1, none⟩) hg1 (fun q => q)).trans h1
                                    replace dcx := (k9.cell (p := ⟨g2, x, none⟩) hg2 (fun q => q)).trans dcx
                                    replace dcy := (k9.cell (p := ⟨g2, y, none⟩) hg2 (fun q => q)).trans dcy
                                    clear k9
                                    go_wp2_with fail
                                    refine hK.out _ _ ⟨e0, e1, h0, h1, dcx, dcy⟩ (fun hHeld => ?_)
                                    clear hK K
                                    refine ord_take 9 295 (.bool true) rfl rfl (by kernel_rfl) (by kernel_rfl) (by kernel_rfl) (fun _ _ _ h => h) (by rfl) (fun wS hS => by (try dsimp only at hS); go_split_ands; go_simp) (by assumption) ?_
                                    simp only [Act.put, List.setIfInBounds_toArray, List.set_cons_zero, List.set_cons_succ]
                                    refine ord_skip 10 296 rfl rfl (by kernel_rfl) (by kernel_rfl) (by kernel_rfl) (fun _ _ _ h => h) (by rfl) (by assumption) ?_
                                    simp only [Act.put, List.setIfInBounds_toArray, List.set_cons_zero, List.set_cons_succ]
                                    refine ord_skip 11 297 rfl rfl (by kernel_rfl) (by kernel_rfl) (by kernel_rfl) (fun _ _ _ h => h) (by rfl) (by assumption) ?_
                                    simp only [Act.put, List.setIfInBounds_toArray, List.set_cons_zero, List.set_cons_succ]
                                    refine ord_skip 12 298 rfl rfl (by kernel_rfl) (by kernel_rfl) (by kernel_rfl) (fun _ _ _ h => h) (by rfl) (by assumption) ?_
                                    simp only [Act.put, List.setIfInBounds_toArray, List.set_cons_zero, List.set_cons_succ]
                                    refine ord_skip 13 299 rfl rfl (by kernel_rfl) (by kernel_rfl) (by kernel_rfl) (fun _ _ _ h => h) (by rfl) (by assumption) ?_
                                    simp only [Act.put, List.setIfInBounds_toArray, List.set_cons_zero, List.set_cons_succ]
                                    refine ord_skip 14 300 rfl rfl (by kernel_rfl) (by kernel_rfl) (by kernel_rfl) (fun _ _ _ h => h) (by rfl) (by assumption) ?_
                                    simp only [Act.put, List.setIfInBounds_toArray, List.set_cons_zero, List.set_cons_succ]
                                    refine ord_skip 15 301 rfl rfl (by kernel_rfl) (by kernel_rfl) (by kernel_rfl) (fun _ _ _ h => h) (by rfl) (by assumption) ?_
                                    simp only [Act.put, List.setIfInBounds_toArray, List.set_cons_zero, List.set_cons_succ]
                                    refine ord_skip 16 302 rfl rfl (by kernel_rfl) (by kernel_rfl) (by kernel_rfl) (fun _ _ _ h => h) (by rfl) (by assumption) ?_
                                    simp only [Act.put, List.setIfInBounds_toArray, List.set_cons_zero, List.set_cons_succ]
                                    refine ord_skip 17 303 rfl rfl (by kernel_rfl) (by kernel_rfl) (by kernel_rfl) (fun _ _ _ h => h) (by rfl) (by assumption) ?_
                                    simp only [Act.put, List.setIfInBounds_toArray, List.set_cons_zero, List.set_cons_succ]
                                    refine ord_skip 18 304 rfl rfl (by kernel_rfl) (by kernel_rfl) (by kernel_rfl) (fun _ _ _ h => h) (by rfl) (by assumption) ?_
                                    simp only [Act.put, List.setIfInBounds_toArray, List.set_cons_zero, List.set_cons_succ]
                                    refine ord_skip 19 305 rfl rfl (by kernel_rfl) (by kernel_rfl) (by kernel_rfl) (fun _ _ _ h => h) (by rfl) (by assumption) ?_
                                    simp only [Act.put, List.setIfInBounds_toArray, List.set_cons_zero, List.set_cons_succ]
                                    refine ord_skip 20 306 rfl rfl (by kernel_rfl) (by kernel_rfl) (by kernel_rfl) (fun _ _ _ h => h) (by rfl) (by assumption) ?_
                                    simp only [Act.put, List.setIfInBounds_toArray, List.set_cons_zero, List.set_cons_succ]
                                    refine ord_skip 21 307 rfl rfl (by kernel_rfl) (by kernel_rfl) (by kernel_rfl) (fun _ _ _ h => h) (by rfl) (by assumption) ?_
                                    simp only [Act.put, List.setIfInBounds_toArray, List.set_cons_zero, List.set_cons_succ]
                                    refine ord_skip 22 308 rfl rfl (by kernel_rfl) (by kernel_rfl) (by kernel_rfl) (fun _ _ _ h => h) (by rfl) (by assumption) ?_
                                    simp only [Act.put, List.setIfInBounds_toArray, List.set_cons_zero, List.set_cons_succ]
                                    refine ord_skip 23 309 rfl rfl (by kernel_rfl) (by kernel_rfl) (by kernel_rfl) (fun _ _ _ h => h) (by rfl) (by assumption) ?_
                                    simp only [Act.put, List.setIfInBounds_toArray, List.set_cons_zero, List.set_cons_succ]
                                    refine ord_skip 24 310 rfl rfl (by kernel_rfl) (by kernel_rfl) (by kernel_rfl) (fun _ _ _ h => h) (by rfl) (by assumption) ?_
                                    simp only [Act.put, List.setIfInBounds_toArray, List.set_cons_zero, List.set_cons_succ]
                                    refine ord_skip 25 311 rfl rfl (by kernel_rfl) (by kernel_rfl) (by kernel_rfl) (fun _ _ _ h => h) (by rfl) (by assumption) ?_
                                    simp only [Act.put, List.setIfInBounds_toArray, List.set_cons_zero, List.set_cons_succ]
                                    refine ord_skip 26 312 rfl rfl (by kernel_rfl) (by kernel_rfl) (by kernel_rfl) (fun _ _ _ h => h) (by rfl) (by assumption) ?_
                                    simp only [Act.put, List.setIfInBounds_toArray, List.set_cons_zero, List.set_cons_succ]
                                    refine ord_skip 27 313 rfl rfl (by kernel_rfl) (by kernel_rfl) (by kernel_rfl) (fun _ _ _ h => h) (by rfl) (by assumption) ?_
                                    simp only [Act.put, List.setIfInBounds_toArray, List.set_cons_zero, List.set_cons_succ]
                                    refine ord_skip 28 314 rfl rfl (by kernel_rfl) (by kernel_rfl) (by kernel_rfl) (fun _ _ _ h => h) (by rfl) (by assumption) ?_
                                    simp only [Act.put, List.setIfInBounds_toArray, List.set_cons_zero, List.set_cons_succ]
                                    refine ord_skip 29 315 rfl rfl (by kernel_rfl) (by kernel_rfl) (by kernel_rfl) (fun _ _ _ h => h) (by rfl) (by assumption) ?_
                                    simp only [Act.put, List.setIfInBounds_toArray, List.set_cons_zero, List.set_cons_succ]
                                    refine ord_take 30 316 (.bool true) rfl rfl (by kernel_rfl) (by kernel_rfl) (by kernel_rfl) (fun _ _ _ h => h) (by rfl) (fun wS hS => by (try dsimp only at hS); go_split_ands; go_simp) (by assumption) ?_
                                    simp only [Act.put, List.setIfInBounds_toArray, List.set_cons_zero, List.set_cons_succ]
                                    refine ord_take 31 27 (.bool true) rfl rfl (by kernel_rfl) (by kernel_rfl) (by kernel_rfl) (fun _ _ _ h => h) (by rfl) (fun wS hS => by (try dsimp only at hS); go_split_ands; go_simp) (by assumption) ?_
                                    simp only [Act.put, List.setIfInBounds_toArray, List.set_cons_zero, List.set_cons_succ]
                                    refine wpAnyH_done (by kernel_rfl) ?_ _
                                    refine NoPanic.normal ?_
                                    go_wp2
                                    go_meet
                                    case rel => exact ⟨by rw [BF'.out], ((Kept.refl _ _).drew).trans' K9.out⟩
                                  · replace c1 : bef p.1 p.2 q.1 q.2 = false := by simpa using c1
                                    rw [c1] at TB BF
                                    clear c1
                                    by_cases c2 : p = q
                                    · as_aux_lemma =>
                                      have hqe : ∀ w, (binOp .eql 24 (.agg #[.int .i64 p.1, .int .i64 p.2]) (.agg #[.int .i64 q.1, .int .i64 q.2])).run Try.prog w = .ok (.bool true) w := fun w => by rw [eql24]; simp [c2]
                                      have BF' := hid (show befI f x y = decide (x < y) by rw [BF.out]; simp [c2])
                                      clear c2 BF
                                      refine wp_region_noPanic ?_
                                      refine wp_region_held_drew (S := (fun w' => w'.cell? ⟨g1, x * 2, none⟩ = some (.int .i64 p.1) ∧ w'.cell? ⟨g1, x * 2 + 1, none⟩ = some (.int .i64 p.2) ∧ w'.cell? ⟨g1, y * 2, none⟩ = some (.int .i64 q.1) ∧ w'.cell? ⟨g1, y * 2 + 1, none⟩ = some (.int .i64 q.2) ∧ w'.cell? ⟨g2, x, none⟩ = some (.int .i64 (x : Int)) ∧ w'.cell? ⟨g2, y, none⟩ = some (.int .i64 (y : Int)))) (by kernel_rfl) ⟨e0, e1, h0, h1, dcx, dcy⟩ (fun hHeld => ?_)
                                      refine ord_take 0 286 (.slice (some ⟨g1, 0, none⟩) k mc) rfl rfl (by kernel_rfl) (by kernel_rfl) (by kernel_rfl) (fun _ _ _ h => h) (by rfl) (fun wS hS => by (try dsimp only at hS); go_split_ands; go_simp) (by assumption) ?_
                                      simp only [Act.put, List.setIfInBounds_toArray, List.set_cons_zero, List.set_cons_succ]
                                      refine ord_take 1 287 (.int .i64 (x : Int)) rfl rfl (by kernel_rfl) (by kernel_rfl) (by kernel_rfl) (fun _ _ _ h => h) (by rfl) (fun wS hS => by (try dsimp only at hS); go_split_ands; go_simp) (by assumption) ?_
                                      simp only [Act.put, List.setIfInBounds_toArray, List.set_cons_zero, List.set_cons_succ]
                                      refine ord_take 2 288 (.pointer (some ⟨g1, x * 2, none⟩)) rfl rfl (by kernel_rfl) (by kernel_rfl) (by kernel_rfl) (fun _ _ _ h => h) (by rfl) (fun wS hS => by (try dsimp only at hS); go_split_ands; go_simp) (by assumption) ?_
                                      simp only [Act.put, List.setIfInBounds_toArray, List.set_cons_zero, List.set_cons_succ]
                                      refine ord_take 3 289 (.agg #[.int .i64 p.1, .int .i64 p.2]) rfl rfl (by kernel_rfl) (by kernel_rfl) (by kernel_rfl) (fun _ _ _ h => h) (by rfl) (fun wS hS => by (try dsimp only at hS); go_split_ands; go_simp) (by assumption) ?_
                                      simp only [Act.put, List.setIfInBounds_toArray, List.set_cons_zero, List.set_cons_succ]
                                      refine ord_take 4 290 (.slice (some ⟨g1, 0, none⟩) k mc) rfl rfl (by kernel_rfl) (by kernel_rfl) (by kernel_rfl) (fun _ _ _ h => h) (by rfl) (fun wS hS => by (try dsimp only at hS); go_split_ands; go_simp) (by assumption) ?_
                                      simp only [Act.put, List.setIfInBounds_toArray, List.set_cons_zero, List.set_cons_succ]
                                      refine ord_take 5 291 (.int .i64 (y : Int)) rfl rfl (by kernel_rfl) (by kernel_rfl) (by kernel_rfl) (fun _ _ _ h => h) (by rfl) (fun wS hS => by (try dsimp only at hS); go_split_ands; go_simp) (by assumption) ?_
                                      simp only [Act.put, List.setIfInBounds_toArray, List.set_cons_zero, List.set_cons_succ]
                                      refine ord_take 6 292 (.pointer (some ⟨g1, y * 2, none⟩)) rfl rfl (by kernel_rfl) (by kernel_rfl) (by kernel_rfl) (fun _ _ _ h => h) (by rfl) (fun wS hS => by (try dsimp only at hS); go_split_ands; go_simp) (by assumption) ?_
                                      simp only [Act.put, List.setIfInBounds_toArray, List.set_cons_zero, List.set_cons_succ]
                                      refine ord_take 7 293 (.agg #[.int .i64 q.1, .int .i64 q.2]) rfl rfl (by kernel_rfl) (by kernel_rfl) (by kernel_rfl) (fun _ _ _ h => h) (by rfl) (fun wS hS => by (try dsimp only at hS); go_split_ands; go_simp) (by assumption) ?_
                                      simp only [Act.put, List.setIfInBounds_toArray, List.set_cons_zero, List.set_cons_succ]
                                      refine wpAnyH_ready (rs := [8]) (by kernel_rfl) (by simp) ?_
                                      refine AllReadyH.cons rfl (fun K hK => ?_) AllReadyH.nil
                                      go_simp
                                      refine TB.out.mono ?_
                                      rintro e w9 ⟨rfl, k9⟩
                                      have K9 := hid k9
                                      replace e0 := (k9.cell (p := ⟨g1, x * 2, none⟩) hg1 (fun q => q)).trans e0
                                      replace e1 := (k9.cell (p := ⟨g1, x * 2 + 1, none⟩) hg1 (fun q => q)).trans e1
                                      replace h0 := (k9.cell (p := ⟨g1, y * 2, none⟩) hg1 (fun q => q)).trans h0
                                      replace h1 := (k9.cell (p := ⟨g1, y * 2 + 1, none⟩) hg1 (fun q => q)).trans h1
                                      replace dcx := (k9.cell (p := ⟨g2, x, none⟩) hg2 (fun q => q)).trans dcx
                                      replace dcy := (k9.cell (p := ⟨g2, y, none⟩) hg2 (fun q => q)).trans dcy
                                      clear k9
                                      go_wp2_with fail
                                      refine hK.out _ _ ⟨e0, e1, h0, h1, dcx, dcy⟩ (fun hHeld => ?_)
                                      clear hK K
                                      refine ord_take 9 295 (.bool false) rfl rfl (by kernel_rfl) (by kernel_rfl) (by kernel_rfl) (fun _ _ _ h => h) (by rfl) (fun wS hS => by (try dsimp only at hS); go_split_ands; go_simp) (by assumption) ?_
                                      simp only [Act.put, List.setIfInBounds_toArray, List.set_cons_zero, List.set_cons_succ]
                                      refine ord_take 10 296 (.slice (some ⟨g1, 0, none⟩) k mc) rfl rfl (by kernel_rfl) (by kernel_rfl) (by kernel_rfl) (fun _ _ _ h => h) (by rfl) (fun wS hS => by (try dsimp only at hS); go_split_ands; go_simp) (by assumption) ?_
                                      simp only [Act.put, List.setIfInBounds_toArray, List.set_cons_zero, List.set_cons_succ]
                                      refine ord_take 11 297 (.int .i64 (x : Int)) rfl rfl (by kernel_rfl) (by kernel_rfl) (by kernel_rfl) (fun _ _ _ h => h) (by rfl) (fun wS hS => by (try dsimp only at hS); go_split_ands; go_simp) (by assumption) ?_
                                      simp only [Act.put, List.setIfInBounds_toArray, List.set_cons_zero, List.set_cons_succ]
                                      refine ord_take 12 298 (.pointer (some ⟨g1, x * 2, none⟩)) rfl rfl (by kernel_rfl) (by kernel_rfl) (by kernel_rfl) (fun _ _ _ h => h) (by rfl) (fun wS hS => by (try dsimp only at hS); go_split_ands; go_simp) (by assumption) ?_
                                      simp only [Act.put, List.setIfInBounds_toArray, List.set_cons_zero, List.set_cons_succ]
                                      refine ord_take 13 299 (.agg #[.int .i64 p.1, .int .i64 p.2]) rfl rfl (by kernel_rfl) (by kernel_rfl) (by kernel_rfl) (fun _ _ _ h => h) (by rfl) (fun wS hS => by (try dsimp only at hS); go_split_ands; go_simp) (by assumption) ?_
                                      simp only [Act.put, List.setIfInBounds_toArray, List.set_cons_zero, List.set_cons_succ]
                                      refine ord_take 14 300 (.slice (some ⟨g1, 0, none⟩) k mc) rfl rfl (by kernel_rfl) (by kernel_rfl) (by kernel_rfl) (fun _ _ _ h => h) (by rfl) (fun wS hS => by (try dsimp only at hS); go_split_ands; go_simp) (by assumption) ?_
                                      simp only [Act.put, List.setIfInBounds_toArray, List.set_cons_zero, List.set_cons_succ]
                                      refine ord_take 15 301 (.int .i64 (y : Int)) rfl rfl (by kernel_rfl) (by kernel_rfl) (by kernel_rfl) (fun _ _ _ h => h) (by rfl) (fun wS hS => by (try dsimp only at hS); go_split_ands; go_simp) (by assumption) ?_
                                      simp only [Act.put, List.setIfInBounds_toArray, List.set_cons_zero, List.set_cons_succ]
                                      refine ord_take 16 302 (.pointer (some ⟨g1, y * 2, none⟩)) rfl rfl (by kernel_rfl) (by kernel_rfl) (by kernel_rfl) (fun _ _ _ h => h) (by rfl) (fun wS hS => by (try dsimp only at hS); go_split_ands; go_simp) (by assumption) ?_
                                      simp only [Act.put, List.setIfInBounds_toArray, List.set_cons_zero, List.set_cons_succ]
                                      refine ord_take 17 303 (.agg #[.int .i64 q.1, .int .i64 q.2]) rfl rfl (by kernel_rfl) (by kernel_rfl) (by kernel_rfl) (fun _ _ _ h => h) (by rfl) (fun wS hS => by (try dsimp only at hS); go_split_ands; go_simp) (by assumption) ?_
                                      simp only [Act.put, List.setIfInBounds_toArray, List.set_cons_zero, List.set_cons_succ]
                                      refine ord_take 18 304 (.bool true) rfl rfl (by kernel_rfl) (by kernel_rfl) (by kernel_rfl) (fun _ _ _ h => h) (by rfl) (fun wS hS => by (try dsimp only at hS); go_split_ands; go_simp) (by assumption) ?_
                                      simp only [Act.put, List.setIfInBounds_toArray, List.set_cons_zero, List.set_cons_succ]
                                      refine ord_take 19 305 (.bool true) rfl rfl (by kernel_rfl) (by kernel_rfl) (by kernel_rfl) (fun _ _ _ h => h) (by rfl) (fun wS hS => by (try dsimp only at hS); go_split_ands; go_simp) (by assumption) ?_
                                      simp only [Act.put, List.setIfInBounds_toArray, List.set_cons_zero, List.set_cons_succ]
                                      refine ord_take 20 306 (.slice (some ⟨g2, 0, none⟩) k cc) rfl rfl (by kernel_rfl) (by kernel_rfl) (by kernel_rfl) (fun _ _ _ h => h) (by rfl) (fun wS hS => by (try dsimp only at hS); go_split_ands; go_simp) (by assumption) ?_
                                      simp only [Act.put, List.setIfInBounds_toArray, List.set_cons_zero, List.set_cons_succ]
                                      refine ord_take 21 307 (.int .i64 (x : Int)) rfl rfl (by kernel_rfl) (by kernel_rfl) (by kernel_rfl) (fun _ _ _ h => h) (by rfl) (fun wS hS => by (try dsimp only at hS); go_split_ands; go_simp) (by assumption) ?_
                                      simp only [Act.put, List.setIfInBounds_toArray, List.set_cons_zero, List.set_cons_succ]
                                      refine ord_take 22 308 (.pointer (some ⟨g2, x, none⟩)) rfl rfl (by kernel_rfl) (by kernel_rfl) (by kernel_rfl) (fun _ _ _ h => h) (by rfl) (fun wS hS => by (try dsimp only at hS); go_split_ands; go_simp) (by assumption) ?_
                                      simp only [Act.put, List.setIfInBounds_toArray, List.set_cons_zero, List.set_cons_succ]
                                      refine ord_take 23 309 (.int .i64 (x : Int)) rfl rfl (by kernel_rfl) (by kernel_rfl) (by kernel_rfl) (fun _ _ _ h => h) (by rfl) (fun wS hS => by (try dsimp only at hS); go_split_ands; go_simp) (by assumption) ?_
                                      simp only [Act.put, List.setIfInBounds_toArray, List.set_cons_zero, List.set_cons_succ]
                                      refine ord_take 24 310 (.slice (some ⟨g2, 0, none⟩) k cc) rfl rfl (by kernel_rfl) (by kernel_rfl) (by kernel_rfl) (fun _ _ _ h => h) (by rfl) (fun wS hS => by (try dsimp only at hS); go_split_ands; go_simp) (by assumption) ?_
                                      simp only [Act.put, List.setIfInBounds_toArray, List.set_cons_zero, List.set_cons_succ]
                                      refine ord_take 25 311 (.int .i64 (y : Int)) rfl rfl (by kernel_rfl) (by kernel_rfl) (by kernel_rfl) (fun _ _ _ h => h) (by rfl) (fun wS hS => by (try dsimp only at hS); go_split_ands; go_simp) (by assumption) ?_
                                      simp only [Act.put, List.setIfInBounds_toArray, List.set_cons_zero, List.set_cons_succ]
                                      refine ord_take 26 312 (.pointer (some ⟨g2, y, none⟩)) rfl rfl (by kernel_rfl) (by kernel_rfl) (by kernel_rfl) (fun _ _ _ h => h) (by rfl) (fun wS hS => by (try dsimp only at hS); go_split_ands; go_simp) (by assumption) ?_
                                      simp only [Act.put, List.setIfInBounds_toArray, List.set_cons_zero, List.set_cons_succ]
                                      refine ord_take 27 313 (.int .i64 (y : Int)) rfl rfl (by kernel_rfl) (by kernel_rfl) (by kernel_rfl) (fun _ _ _ h => h) (by rfl) (fun wS hS => by (try dsimp only at hS); go_split_ands; go_simp) (by assumption) ?_
                                      simp only [Act.put, List.setIfInBounds_toArray, List.set_cons_zero, List.set_cons_succ]
                                      refine ord_take 28 314 (.bool (decide ((x : Int) < (y : Int)))) rfl rfl (by kernel_rfl) (by kernel_rfl) (by kernel_rfl) (fun _ _ _ h => h) (by rfl) (fun wS hS => by (try dsimp only at hS); go_split_ands; go_simp) (by assumption) ?_
                                      simp only [Act.put, List.setIfInBounds_toArray, List.set_cons_zero, List.set_cons_succ]
                                      refine ord_take 29 315 (.bool (decide ((x : Int) < (y : Int)))) rfl rfl (by kernel_rfl) (by kernel_rfl) (by kernel_rfl) (fun _ _ _ h => h) (by rfl) (fun wS hS => by (try dsimp only at hS); go_split_ands; go_simp) (by assumption) ?_
                                      simp only [Act.put, List.setIfInBounds_toArray, List.set_cons_zero, List.set_cons_succ]
                                      refine ord_take 30 316 (.bool (decide ((x : Int) < (y : Int)))) rfl rfl (by kernel_rfl) (by kernel_rfl) (by kernel_rfl) (fun _ _ _ h => h) (by rfl) (fun wS hS => by (try dsimp only at hS); go_split_ands; go_simp) (by assumption) ?_
                                      simp only [Act.put, List.setIfInBounds_toArray, List.set_cons_zero, List.set_cons_succ]
                                      refine ord_take 31 27 (.bool (decide ((x : Int) < (y : Int)))) rfl rfl (by kernel_rfl) (by kernel_rfl) (by kernel_rfl) (fun _ _ _ h => h) (by rfl) (fun wS hS => by (try dsimp only at hS); go_split_ands; go_simp) (by assumption) ?_
                                      simp only [Act.put, List.setIfInBounds_toArray, List.set_cons_zero, List.set_cons_succ]
                                      refine wpAnyH_done (by kernel_rfl) ?_ _
                                      refine NoPanic.normal ?_
                                      go_wp2
                                      go_meet
                                      case rel => exact ⟨by rw [BF'.out]; simp, ((Kept.refl _ _).drew).trans' K9.out⟩
                                    · as_aux_lemma =>
                                      have hqe : ∀ w, (binOp .eql 24 (.agg #[.int .i64 p.1, .int .i64 p.2]) (.agg #[.int .i64 q.1, .int .i64 q.2])).run Try.prog w = .ok (.bool false) w := fun w => by rw [eql24]; simp [c2]
                                      have BF' := hid (show befI f x y = false by
                                        rw [BF.out]
                                        rw [decide_eq_false (fun e => c2 (Prod.ext e.1 e.2))]; rfl)
                                      clear c2 BF
                                      refine wp_region_noPanic ?_
                                      refine wp_region_held_drew (S := (fun w' => w'.cell? ⟨g1, x * 2, none⟩ = some (.int .i64 p.1) ∧ w'.cell? ⟨g1, x * 2 + 1, none⟩ = some (.int .i64 p.2) ∧ w'.cell? ⟨g1, y * 2, none⟩ = some (.int .i64 q.1) ∧ w'.cell? ⟨g1, y * 2 + 1, none⟩ = some (.int .i64 q.2) ∧ w'.cell? ⟨g2, x, none⟩ = some (.int .i64 (x : Int)) ∧ w'.cell? ⟨g2, y, none⟩ = some (.int .i64 (y : Int)))) (by kernel_rfl) ⟨e0, e1, h0, h1, dcx, dcy⟩ (fun hHeld => ?_)
                                      refine ord_take 0 286 (.slice (some ⟨g1, 0, none⟩) k mc) rfl rfl (by kernel_rfl) (by kernel_rfl) (by kernel_rfl) (fun _ _ _ h => h) (by rfl) (fun wS hS => by (try dsimp only at hS); go_split_ands; go_simp) (by assumption) ?_
                                      simp only [Act.put, List.setIfInBounds_toArray, List.set_cons_zero, List.set_cons_succ]
                                      refine ord_take 1 287 (.int .i64 (x : Int)) rfl rfl (by kernel_rfl) (by kernel_rfl) (by kernel_rfl) (fun _ _ _ h => h) (by rfl) (fun wS hS => by (try dsimp only at hS); go_split_ands; go_simp) (by assumption) ?_
                                      simp only [Act.put, List.setIfInBounds_toArray, List.set_cons_zero, List.set_cons_succ]
                                      refine ord_take 2 288 (.pointer (some ⟨g1, x * 2, none⟩)) rfl rfl (by kernel_rfl) (by kernel_rfl) (by kernel_rfl) (fun _ _ _ h => h) (by rfl) (fun wS hS => by (try dsimp only at hS); go_split_ands; go_simp) (by assumption) ?_
                                      simp only [Act.put, List.setIfInBounds_toArray, List.set_cons_zero, List.set_cons_succ]
                                      refine ord_take 3 289 (.agg #[.int .i64 p.1, .int .i64 p.2]) rfl rfl (by kernel_rfl) (by kernel_rfl) (by kernel_rfl) (fun _ _ _ h => h) (by rfl) (fun wS hS => by (try dsimp only at hS); go_split_ands; go_simp) (by assumption) ?_
                                      simp only [Act.put, List.setIfInBounds_toArray, List.set_cons_zero, List.set_cons_succ]
                                      refine ord_take 4 290 (.slice (some ⟨g1, 0, none⟩) k mc) rfl rfl (by kernel_rfl) (by kernel_rfl) (by kernel_rfl) (fun _ _ _ h => h) (by rfl) (fun wS hS => by (try dsimp only at hS); go_split_ands; go_simp) (by assumption) ?_
                                      simp only [Act.put, List.setIfInBounds_toArray, List.set_cons_zero, List.set_cons_succ]
                                      refine ord_take 5 291 (.int .i64 (y : Int)) rfl rfl (by kernel_rfl) (by kernel_rfl) (by kernel_rfl) (fun _ _ _ h => h) (by rfl) (fun wS hS => by (try dsimp only at hS); go_split_ands; go_simp) (by assumption) ?_
                                      simp only [Act.put, List.setIfInBounds_toArray, List.set_cons_zero, List.set_cons_succ]
                                      refine ord_take 6 292 (.pointer (some ⟨g1, y * 2, none⟩)) rfl rfl (by kernel_rfl) (by kernel_rfl) (by kernel_rfl) (fun _ _ _ h => h) (by rfl) (fun wS hS => by (try dsimp only at hS); go_split_ands; go_simp) (by assumption) ?_
                                      simp only [Act.put, List.setIfInBounds_toArray, List.set_cons_zero, List.set_cons_succ]
                                      refine ord_take 7 293 (.agg #[.int .i64 q.1, .int .i64 q.2]) rfl rfl (by kernel_rfl) (by kernel_rfl) (by kernel_rfl) (fun _ _ _ h => h) (by rfl) (fun wS hS => by (try dsimp only at hS); go_split_ands; go_simp) (by assumption) ?_
                                      simp only [Act.put, List.setIfInBounds_toArray, List.set_cons_zero, List.set_cons_succ]
                                      refine wpAnyH_ready (rs := [8]) (by kernel_rfl) (by simp) ?_
                                      refine AllReadyH.cons rfl (fun K hK => ?_) AllReadyH.nil
                                      go_simp
                                      refine TB.out.mono ?_
                                      rintro e w9 ⟨rfl, k9⟩
                                      have K9 := hid k9
                                      replace e0 := (k9.cell (p := ⟨g1, x * 2, none⟩) hg1 (fun q => q)).trans e0
                                      replace e1 := (k9.cell (p := ⟨g1, x * 2 + 1, none⟩) hg1 (fun q => q)).trans e1
                                      replace h0 := (k9.cell (p := ⟨g1, y * 2, none⟩) hg1 (fun q => q)).trans h0
                                      replace h1 := (k9.cell (p := ⟨g1, y * 2 + 1, none⟩) hg1 (fun q => q)).trans h1
                                      replace dcx := (k9.cell (p := ⟨g2, x, none⟩) hg2 (fun q => q)).trans dcx
                                      replace dcy := (k9.cell (p := ⟨g2, y, none⟩) hg2 (fun q => q)).trans dcy
                                      clear k9
                                      go_wp2_with fail
                                      refine hK.out _ _ ⟨e0, e1, h0, h1, dcx, dcy⟩ (fun hHeld => ?_)
                                      clear hK K
                                      refine ord_take 9 295 (.bool false) rfl rfl (by kernel_rfl) (by kernel_rfl) (by kernel_rfl) (fun _ _ _ h => h) (by rfl) (fun wS hS => by (try dsimp only at hS); go_split_ands; go_simp) (by assumption) ?_
                                      simp only [Act.put, List.setIfInBounds_toArray, List.set_cons_zero, List.set_cons_succ]
                                      refine ord_take 10 296 (.slice (some ⟨g1, 0, none⟩) k mc) rfl rfl (by kernel_rfl) (by kernel_rfl) (by kernel_rfl) (fun _ _ _ h => h) (by rfl) (fun wS hS => by (try dsimp only at hS); go_split_ands; go_simp) (by assumption) ?_
                                      simp only [Act.put, List.setIfInBounds_toArray, List.set_cons_zero, List.set_cons_succ]
                                      refine ord_take 11 297 (.int .i64 (x : Int)) rfl rfl (by kernel_rfl) (by kernel_rfl) (by kernel_rfl) (fun _ _ _ h => h) (by rfl) (fun wS hS => by (try dsimp only at hS); go_split_ands; go_simp) (by assumption) ?_
                                      simp only [Act.put, List.setIfInBounds_toArray, List.set_cons_zero, List.set_cons_succ]
                                      refine ord_take 12 298 (.pointer (some ⟨g1, x * 2, none⟩)) rfl rfl (by kernel_rfl) (by kernel_rfl) (by kernel_rfl) (fun _ _ _ h => h) (by rfl) (fun wS hS => by (try dsimp only at hS); go_split_ands; go_simp) (by assumption) ?_
                                      simp only [Act.put, List.setIfInBounds_toArray, List.set_cons_zero, List.set_cons_succ]
                                      refine ord_take 13 299 (.agg #[.int .i64 p.1, .int .i64 p.2]) rfl rfl (by kernel_rfl) (by kernel_rfl) (by kernel_rfl) (fun _ _ _ h => h) (by rfl) (fun wS hS => by (try dsimp only at hS); go_split_ands; go_simp) (by assumption) ?_
                                      simp only [Act.put, List.setIfInBounds_toArray, List.set_cons_zero, List.set_cons_succ]
                                      refine ord_take 14 300 (.slice (some ⟨g1, 0, none⟩) k mc) rfl rfl (by kernel_rfl) (by kernel_rfl) (by kernel_rfl) (fun _ _ _ h => h) (by rfl) (fun wS hS => by (try dsimp only at hS); go_split_ands; go_simp) (by assumption) ?_
                                      simp only [Act.put, List.setIfInBounds_toArray, List.set_cons_zero, List.set_cons_succ]
                                      refine ord_take 15 301 (.int .i64 (y : Int)) rfl rfl (by kernel_rfl) (by kernel_rfl) (by kernel_rfl) (fun _ _ _ h => h) (by rfl) (fun wS hS => by (try dsimp only at hS); go_split_ands; go_simp) (by assumption) ?_
                                      simp only [Act.put, List.setIfInBounds_toArray, List.set_cons_zero, List.set_cons_succ]
                                      refine ord_take 16 302 (.pointer (some ⟨g1, y * 2, none⟩)) rfl rfl (by kernel_rfl) (by kernel_rfl) (by kernel_rfl) (fun _ _ _ h => h) (by rfl) (fun wS hS => by (try dsimp only at hS); go_split_ands; go_simp) (by assumption) ?_
                                      simp only [Act.put, List.setIfInBounds_toArray, List.set_cons_zero, List.set_cons_succ]
                                      refine ord_take 17 303 (.agg #[.int .i64 q.1, .int .i64 q.2]) rfl rfl (by kernel_rfl) (by kernel_rfl) (by kernel_rfl) (fun _ _ _ h => h) (by rfl) (fun wS hS => by (try dsimp only at hS); go_split_ands; go_simp) (by assumption) ?_
                                      simp only [Act.put, List.setIfInBounds_toArray, List.set_cons_zero, List.set_cons_succ]
                                      refine ord_take 18 304 (.bool false) rfl rfl (by kernel_rfl) (by kernel_rfl) (by kernel_rfl) (fun _ _ _ h => h) (by rfl) (fun wS hS => by (try dsimp only at hS); go_split_ands; go_simp) (by assumption) ?_
                                      simp only [Act.put, List.setIfInBounds_toArray, List.set_cons_zero, List.set_cons_succ]
                                      refine ord_take 19 305 (.bool false) rfl rfl (by kernel_rfl) (by kernel_rfl) (by kernel_rfl) (fun _ _ _ h => h) (by rfl) (fun wS hS => by (try dsimp only at hS); go_split_ands; go_simp) (by assumption) ?_
                                      simp only [Act.put, List.setIfInBounds_toArray, List.set_cons_zero, List.set_cons_succ]
                                      refine ord_skip 20 306 rfl rfl (by kernel_rfl) (by kernel_rfl) (by kernel_rfl) (fun _ _ _ h => h) (by rfl) (by assumption) ?_
                                      simp only [Act.put, List.setIfInBounds_toArray, List.set_cons_zero, List.set_cons_succ]
                                      refine ord_skip 21 307 rfl rfl (by kernel_rfl) (by kernel_rfl) (by kernel_rfl) (fun _ _ _ h => h) (by rfl) (by assumption) ?_
                                      simp only [Act.put, List.setIfInBounds_toArray, List.set_cons_zero, List.set_cons_succ]
                                      refine ord_skip 22 308 rfl rfl (by kernel_rfl) (by kernel_rfl) (by kernel_rfl) (fun _ _ _ h => h) (by rfl) (by assumption) ?_
                                      simp only [Act.put, List.setIfInBounds_toArray, List.set_cons_zero, List.set_cons_succ]
                                      refine ord_skip 23 309 rfl rfl (by kernel_rfl) (by kernel_rfl) (by kernel_rfl) (fun _ _ _ h => h) (by rfl) (by assumption) ?_
                                      simp only [Act.put, List.setIfInBounds_toArray, List.set_cons_zero, List.set_cons_succ]
                                      refine ord_skip 24 310 rfl rfl (by kernel_rfl) (by kernel_rfl) (by kernel_rfl) (fun _ _ _ h => h) (by rfl) (by assumption) ?_
                                      simp only [Act.put, List.setIfInBounds_toArray, List.set_cons_zero, List.set_cons_succ]
                                      refine ord_skip 25 311 rfl rfl (by kernel_rfl) (by kernel_rfl) (by kernel_rfl) (fun _ _ _ h => h) (by rfl) (by assumption) ?_
                                      simp only [Act.put, List.setIfInBounds_toArray, List.set_cons_zero, List.set_cons_succ]
                                      refine ord_skip 26 312 rfl rfl (by kernel_rfl) (by kernel_rfl) (by kernel_rfl) (fun _ _ _ h => h) (by rfl) (by assumption) ?_
                                      simp only [Act.put, List.setIfInBounds_toArray, List.set_cons_zero, List.set_cons_succ]
                                      refine ord_skip 27 313 rfl rfl (by kernel_rfl) (by kernel_rfl) (by kernel_rfl) (fun _ _ _ h => h) (by rfl) (by assumption) ?_
                                      simp only [Act.put, List.setIfInBounds_toArray, List.set_cons_zero, List.set_cons_succ]
                                      refine ord_skip 28 314 rfl rfl (by kernel_rfl) (by kernel_rfl) (by kernel_rfl) (fun _ _ _ h => h) (by rfl) (by assumption) ?_
                                      simp only [Act.put, List.setIfInBounds_toArray, List.set_cons_zero, List.set_cons_succ]
                                      refine ord_take 29 315 (.bool false) rfl rfl (by kernel_rfl) (by kernel_rfl) (by kernel_rfl) (fun _ _ _ h => h) (by rfl) (fun wS hS => by (try dsimp only at hS); go_split_ands; go_simp) (by assumption) ?_
                                      simp only [Act.put, List.setIfInBounds_toArray, List.set_cons_zero, List.set_cons_succ]
                                      refine ord_take 30 316 (.bool false) rfl rfl (by kernel_rfl) (by kernel_rfl) (by kernel_rfl) (fun _ _ _ h => h) (by rfl) (fun wS hS => by (try dsimp only at hS); go_split_ands; go_simp) (by assumption) ?_
                                      simp only [Act.put, List.setIfInBounds_toArray, List.set_cons_zero, List.set_cons_succ]
                                      refine ord_take 31 27 (.bool false) rfl rfl (by kernel_rfl) (by kernel_rfl) (by kernel_rfl) (fun _ _ _ h => h) (by rfl) (fun wS hS => by (try dsimp only at hS); go_split_ands; go_simp) (by assumption) ?_
                                      simp only [Act.put, List.setIfInBounds_toArray, List.set_cons_zero, List.set_cons_succ]
                                      refine wpAnyH_done (by kernel_rfl) ?_ _
                                      refine NoPanic.normal ?_
                                      go_wp2
                                      go_meet
                                      case rel => exact ⟨by rw [BF'.out], ((Kept.refl _ _).drew).trans' K9.out⟩
                                case rest =>
                                  as_aux_lemma =>
                                  obtain ⟨rfl, kc⟩ := hcut
                                  have H8 := hid (HH.out.plain kc)
                                  have M18 := hid (M1.out.plain kc)
                                  have M28 := hid (M2.out.plain kc)
                                  have M38 := hid (M3.out.plain kc)
                                  have M48 := hid (M4.out.plain kc)
                                  clear kc HH M1 M2 M3 M4 e0 e1 h0 h1 dcx dcy hg1 hg2 BF EQ
                                  have dcx : wc.cell? ⟨g2, x, none⟩ = some (.int .i64 (x : Int)) := by simpa using mine_rng M28.out hlt
                                  have dcy : wc.cell? ⟨g2, y, none⟩ = some (.int .i64 (y : Int)) := by simpa using mine_rng M28.out hly
                                  have hg2 : g2 < wc.heap.size := M28.out.lt g2 rfl
                                  have T1 := hid (beforeI (H8.out.plain (Kept.refl _ _).drew) (by omega) (c := x) (d := y) (by omega) (by omega))
                                  generalize befI f x y = b at T1 ⊢
                                  have hz : (!(b == b)) = false := by simp
                                  go_wp2_with fail
                                  go_region_held3 (fun w' => w'.cell? ⟨g2, x, none⟩ = some (.int .i64 (x : Int)) ∧ w'.cell? ⟨g2, y, none⟩ = some (.int .i64 (y : Int))) (exact ⟨dcx, dcy⟩)
                                    (first
                                      | (go_at_call 20; (with_reducible refine T1.out.mono ?_); rintro e w9 ⟨rfl, h9, k9⟩; have H9 := hid h9; have M19 := hid ((M18.out.plain ((Kept.refl _ _).drew)).stay k9); have M29 := hid ((M28.out.plain ((Kept.refl _ _).drew)).stay k9); have M39 := hid ((M38.out.plain ((Kept.refl _ _).drew)).stay k9); have M49 := hid ((M48.out.plain ((Kept.refl _ _).drew)).stay k9); replace dcx := (k9.cell (p := ⟨g2, x, none⟩) hg2 G2).trans dcx; replace dcy := (k9.cell (p := ⟨g2, y, none⟩) hg2 G2).trans dcy; clear h9 k9))
                                  clear T1 H8 M18 M28 M38 M48 dcx dcy
                                  go_wp2
                                  go_roundw
                                  case rel => exact ⟨y + 1, t' + 4, by go_num, by omega, by omega, H9.out, M19.out, M29.out, M39.out, M49.out⟩
                                  case measure => simp [intOf]; omega
                              · obtain rfl : k = y := by omega
                                go_wp2
                                go_roundw
                                case rel => exact ⟨x + 1, t', by go_num, by omega, by omega, HH.out, M1.out, M2.out, M3.out, M4.out⟩
                                case measure => simp [intOf]; omega
                          · as_aux_lemma =>
                            go_wp2_with fail
                            refine (known_any _).mono ?_
                            rintro e w5 ⟨rfl, hb⟩
                            have HB := hid (HH.out.bel.trans (hb.mono HH.out.bel.size))
                            clear hb
                            go_wp2
                            go_ret
                            exact ⟨rfl, HB.out⟩
end Go.Proofs.Ytonflgkfbhndbaa
