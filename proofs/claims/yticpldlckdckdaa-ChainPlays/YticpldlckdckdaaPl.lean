/- The walk of play: rings beside plain lists. -/
import Derived.Test.YticpldlckdckdaaMd
import Derived.Deep.DeepCutAuto
import Derived.Deep.CutBlock
import Derived.Lib.SliceRun
namespace Go.Proofs.Yticpldlckdckdaa
open Go.ChangeShapes Go.WideShapes Go.ChangeAt Go.RowKit

set_option maxRecDepth 100000 in
set_option maxHeartbeats 4000000 in
theorem play_walk (n : Nat) (hn1 : 1 ≤ n) (hn2 : n ≤ 12) (a : Option Addr) (cap : Nat) (l : List Akk) (w : World) (hC : Came w a 3 ask3 l) (hI : ∀ x ∈ l, akkI x) :
    Calls Try.prog 7 #[.int .i64 n, .slice a l.length cap] w fun e w' => e = .returned (.bool true) ∧ Below w.heap.size w w' := by
  have HC := hid hC
  have HI := hid hI
  clear hC hI
  go_enter Try.func7, Try.ntmps7
  go_wp2_with fail
  refine (newC n (by omega) w).mono ?_
  rintro e w1 ⟨F, pa, pm, rfl, h1⟩
  have H1 := hid h1
  clear h1
  go_wp2_with fail
  refine (meterC H1.out.1).mono ?_
  rintro e w2 ⟨rfl, rfl⟩
  obtain ⟨w3, hmk, ho3, hk3⟩ := makeR w2 n (by omega)
  obtain ⟨rb, hrb⟩ : ∃ rb, rb = w2.heap.size := ⟨_, rfl⟩
  have RB := hid hrb
  rw [← hrb] at hmk ho3
  have O3 := hid ho3
  have H3 := hid (H1.out.plain hk3)
  have FL := hid H1.out.1.lt
  have BS := hid H1.out.1.bel.size
  clear H1 ho3 hk3 hrb
  go_wp2
  go_loopw [7, 8, 9] (fun iv _ _ wr => ∃ (i : Nat) (G : Nat → Prop) (vs : List Value), iv = .int .i64 i ∧ i ≤ n ∧ Hr w wr G pa pm n i id id (7 * i) ∧ Lay w wr G rb n vs (fun k => if k < i then [k] else [])) (fun i _ _ _ => n - (intOf i).toNat)
  case atStart =>
    refine ⟨0, F, List.replicate n (.slice none 0 0), rfl, Nat.zero_le _, H3.out, own_base O3.out (Nat.zero_le _), ⟨fun e => ?_, ?_⟩, fun k v hv => ?_⟩
    · have := FL.out _ e; have := RB.out; omega
    · have := RB.out; have := BS.out; omega
    · refine Or.inl ⟨?_, by simp⟩
      rw [List.getElem?_replicate] at hv
      split at hv
      · simpa using hv.symm
      · simp at hv
  case round =>
    clear hmk O3 H3 FL BS RB
    obtain ⟨i, G, vs, rfl, hi, hh, hl⟩ := hrel
    have HH := hid hh
    have LL := hid hl
    clear hh hl
    by_cases hlt : i < n
    · have hlt' : (i : Int) < (n : Int) := by omega
      obtain ⟨wq, hwq⟩ : ∃ wq, wq = wr := ⟨wr, rfl⟩
      subst hwq
      go_wp2_with fail
      refine (takeC HH.out (by omega) hlt).mono ?_
      rintro e w4 ⟨rfl, h4, k4⟩
      have H4 := hid h4
      have L4 := hid (LL.out.call k4)
      generalize Grow G wq w4 = G4 at H4 L4
      clear h4 k4 LL
      go_wp2_with fail
      refine (oneV HH.out.2 H4.out (by omega)).mono ?_
      rw [nxt_id]
      rintro e w5 ⟨rfl, h5, k5⟩
      have H5 := hid h5
      have L5 := hid (L4.out.stay k5)
      clear h5 k5 H4 L4 HH
      have hrb5 : rb < w5.heap.size := L5.out.lt
      have hfz := L5.out.frozen i
      obtain ⟨v0, _, hcell, _⟩ := L5.out.get hlt
      have L6 := hid (L5.out.plain ((Kept.refl (fun _ => False) w5).alloc (.cells #[.int .i64 (i : Int)] 3)))
      have NL : Hid (Lies (Out w G4 rb) (w5.alloc (.cells #[.int .i64 (i : Int)] 3)) (.slice (some ⟨w5.heap.size, 0, none⟩) 1 1) [i]) :=
        Lies.of_own (l := [i]) (World.ownsRow_lit (base := w5.heap.size) (e := 3) (size := 1) w5 #[.int .i64 (i : Int)] 1 (Nat.le_refl _) (by simp [maxLen]) rfl) (fun b hb _ => Out.of H5.out.1.lt hrb5 H5.out.1.bel.size hb)
      go_wp2
      go_roundw
      case rel =>
        rw [← World.setCell_alloc_past _ _ _ _ hrb5]
        refine ⟨i + 1, G4, _, by go_num, by omega, ?_, (L6.out.store (k := i) NL.out).eq (fun k hk => ?_)⟩
        · have := (H5.out.plain ((Kept.refl (fun _ => False) w5).alloc (.cells #[.int .i64 (i : Int)] 3))).stored (rb := rb) (i := i) (v := .slice (some ⟨w5.heap.size, 0, none⟩) 1 1) L5.out.out
          rw [show 7 * (i + 1) = 7 * i + 1 + 6 by omega]; exact this
        · by_cases e : k = i
          · subst e; simp
          · by_cases e' : k < i
            · simp [e, e', show k < i + 1 by omega]
            · simp [e, e', show ¬ k < i + 1 by omega]
      case measure => simp [intOf]; omega
    · obtain rfl : i = n := by omega
      have R0 := hid (Rgs.start i)
      have L0 := hid (show Lay w wr G rb i vs (fun k => [k]) from LL.out.eq (fun k hk => by simp [hk]))
      clear hlt hi LL
      go_wp2
      go_loopw [10] (fun iv wr => ∃ (j t : Nat) (nx pv : Nat → Nat) (vs : List Value) (rg : Nat → List Nat), iv = .int .i64 j ∧ j ≤ 60 ∧ t ≤ 100 + 400 * j ∧ Hr w wr G pa pm i i nx pv t ∧ Lay w wr G rb i vs rg ∧ Rgs i nx rg) (fun j _ => 60 - (intOf j).toNat)
      case atStart => exact ⟨0, 7 * i, id, id, vs, fun k => [k], rfl, by omega, by omega, HH.out, L0.out, R0.out⟩
      case round =>
        clear HH L0 R0
        clear vs
        obtain ⟨j, t, nx, pv, vs, rg, rfl, hj, ht, hh, hl, hr⟩ := hrel
        have HH := hid hh
        have LL := hid hl
        have RG := hid hr
        clear hh hl hr
        rcases (by omega : (j < l.length ∧ j < 60) ∨ ((l.length ≤ j) ∨ (j < l.length ∧ 60 ≤ j))) with hq | hq
        · obtain ⟨hq1, hq2⟩ := hq
          have hx : l[j]? = some l[j] := List.getElem?_eq_getElem hq1
          obtain ⟨I1, I2, I3⟩ := HI.out l[j] (List.getElem_mem hq1)
          obtain ⟨b0, off, ee, hb0, hc0⟩ := HC.out.get HH.out.1.bel hx
          subst ee
          generalize l[j] = q at hx hc0 I1 I2 I3
          have d0 : wr.cell? ⟨b0, off + j * 3, none⟩ = some (.int .i64 q.kind) := by simpa [ask3] using hc0 0 (by decide)
          have d1 : wr.cell? ⟨b0, off + j * 3 + 1, none⟩ = some (.int .i64 q.c) := by simpa [ask3, Nat.add_assoc] using hc0 1 (by decide)
          have d2 : wr.cell? ⟨b0, off + j * 3 + 2, none⟩ = some (.int .i64 q.d) := by simpa [ask3, Nat.add_assoc] using hc0 2 (by decide)
          have hq1' : (j : Int) < (l.length : Int) := by omega
          have hq2' : (j : Int) < 60 := by omega
          have hb0' : b0 < wr.heap.size := Nat.lt_of_lt_of_le hb0 HH.out.1.bel.size
          have hii : (0 : Int) ≤ (i : Int) - 1 := by omega
          have A1 := hid (fun W => within_eq q.c I2 ((i : Int) - 1) hii (by omega) W)
          have A2 := hid (fun W => within_eq q.d I3 ((i : Int) - 1) hii (by omega) W)
          obtain ⟨c1, c2⟩ := winI_le q.c 0 ((i : Int) - 1) hii
          obtain ⟨e1, e2⟩ := winI_le q.d 0 ((i : Int) - 1) hii
          obtain ⟨c, hc⟩ : ∃ c : Nat, winI q.c 0 ((i : Int) - 1) = (c : Int) := ⟨(winI q.c 0 ((i : Int) - 1)).toNat, by omega⟩
          obtain ⟨d, hd⟩ : ∃ d : Nat, winI q.d 0 ((i : Int) - 1) = (d : Int) := ⟨(winI q.d 0 ((i : Int) - 1)).toNat, by omega⟩
          rw [hc] at A1 c2
          rw [hd] at A2 e2
          have hci : c < i := by omega
          have hdi : d < i := by omega
          generalize q.c = qc at *
          generalize q.d = qd at *
          generalize q.kind = kd at *
          obtain ⟨wq, hwq⟩ : ∃ wq, wq = wr := ⟨wr, rfl⟩
          subst hwq
          clear hx hc0 hc hd c1 e1 hii q
          go_wp2_with fail
          go_quiet (first
            | (go_at_call 9; with_reducible refine Calls.quiet_of_same (A1.out _))
            | (go_at_call 9; with_reducible refine Calls.quiet_of_same (A2.out _)))
          obtain ⟨ws, hws⟩ : ∃ ws, ws = wq.drewN nq := ⟨_, rfl⟩
          replace HH := hid (HH.out.drewN nq)
          replace LL := hid (LL.out.plain ((Kept.refl (fun _ => False) wq).drewN nq))
          replace d0 : (wq.drewN nq).cell? ⟨b0, off + j * 3, none⟩ = some (.int .i64 kd) := d0
          replace hb0' : b0 < (wq.drewN nq).heap.size := hb0'
          rw [← hws] at HH LL d0 hb0' ⊢
          clear hws d1 d2 A1 A2 I2 I3
          obtain ⟨vc, hvs1, hvc, lc⟩ := LL.out.get hci
          obtain ⟨vd, hvs2, hvd, ld⟩ := LL.out.get hdi
          have hrb := LL.out.lt
          obtain ⟨l1, l2, ec, nc, tc⟩ := RG.out.turn hci
          obtain ⟨m1, m2, ed, nd, td⟩ := RG.out.turn hdi
          have LC := hid lc
          have LD := hid ld
          have lenC := RG.out.le hci
          have lenD := RG.out.le hdi
          have T1 := hid (fun (W : World) (kW : Kept (fun _ => False) ws W) => turnedN vc l1 l2 c W (by rw [← ec]; exact lc.kept kW (fun _ _ e => e)) nc (by rw [← ec]; omega))
          have T2 := hid (fun (W : World) (kW : Kept (fun _ => False) ws W) => turnedN vd m1 m2 d W (by rw [← ed]; exact ld.kept kW (fun _ _ e => e)) nd (by rw [← ed]; omega))
          have NC := hid (show l2.length + 1 + l1.length = (l2 ++ l1).length + 1 by simp; omega)
          have ND := hid (show m2.length + 1 + m1.length = (m2 ++ m1).length + 1 by simp; omega)
          rw [NC.out] at T1
          rw [ND.out] at T2
          have T1' := hid (T1.out ws.drew ((Kept.refl _ _).drew))
          have EC := hid ec
          have TC := hid tc
          have TD := hid td
          clear ec ed nc nd lc ld tc td NC ND lenC lenD hvs1 hvs2
          go_wp2_with fail
          go_region_held3 (fun w' => w'.cell? ⟨rb, c, none⟩ = some vc ∧ w'.cell? ⟨rb, d, none⟩ = some vd) (first | exact ⟨hcY, hdY⟩ | exact ⟨hcX, hdX⟩ | exact ⟨hvc, hvd⟩)
            (first
              | (go_at_call 20; with_reducible refine T1'.out.mono ?_; rintro e wx ⟨vx, rfl, ox, bx⟩; have KX := hid (((Kept.refl (fun _ => False) ws).drew).trans' (Kept.of_below bx)); have hcX := (KX.out.cell (p := ⟨rb, c, none⟩) hrb (fun e => e)).trans hvc; have hdX := (KX.out.cell (p := ⟨rb, d, none⟩) hrb (fun e => e)).trans hvd; have OX := hid ox; clear ox bx)
              | (go_at_call 20; with_reducible refine (T2.out _ KX.out).mono ?_; rintro e wy ⟨vy, rfl, oy, bY⟩; have KY := hid (KX.out.trans' (Kept.of_below bY)); have hcY := (KY.out.cell (p := ⟨rb, c, none⟩) hrb (fun e => e)).trans hvc; have hdY := (KY.out.cell (p := ⟨rb, d, none⟩) hrb (fun e => e)).trans hvd; have OY := hid oy; have OX' := hid (own_plain OX.out (Kept.of_below bY)); clear oy bY))
          obtain ⟨tc, htc⟩ : ∃ tc, tc = l2 ++ l1 := ⟨_, rfl⟩
          obtain ⟨td, htd⟩ : ∃ td, td = m2 ++ m1 := ⟨_, rfl⟩
          replace OX' := OX'.out
          rw [show c :: l2 ++ l1 = c :: (l2 ++ l1) from rfl, ← htc] at OX'
          replace OY := OY.out
          rw [show d :: m2 ++ m1 = d :: (m2 ++ m1) from rfl, ← htd] at OY
          rw [← htc] at TC
          rw [← htd] at TD
          obtain ⟨X, hX⟩ : ∃ X, X = tc.length + 1 := ⟨_, rfl⟩
          obtain ⟨Y, hY⟩ : ∃ Y, Y = td.length + 1 := ⟨_, rfl⟩
          rw [← hX] at OX'
          rw [← hY] at OY
          obtain ⟨gx, cx, rfl, hgx0, hgx⟩ := OX'.form (by omega)
          obtain ⟨gy, cy, rfl, hgy0, hgy⟩ := OY.form (by omega)
          have HX := hid hX
          have HY := hid hY
          have hX1 : 1 ≤ X := by omega
          have hX12 : X ≤ 12 := by have := TC.out.le; omega
          have hY1 : 1 ≤ Y := by omega
          have hY12 : Y ≤ 12 := by have := TD.out.le; omega
          have H5 := hid (HH.out.plain KY.out)
          have L5 := hid (LL.out.plain KY.out)
          have hWs := HH.out.1.bel.size
          have LX := hid (Lies.of_own (l := c :: tc) (P := Out w G rb) (by rw [List.length_cons, ← hX]; exact OX') (fun b hb _ => Out.of HH.out.1.lt hrb hWs hb))
          have LYd := hid (Lies.of_own (l := d :: td) (P := Out w G rb) (by rw [List.length_cons, ← hY]; exact OY) (fun b hb _ => Out.of HH.out.1.lt hrb hWs (Nat.le_trans KX.out.size hb)))
          have d5 : wy.cell? ⟨b0, off + j * 3, none⟩ = some (.int .i64 kd) := (KY.out.cell (p := ⟨b0, _, none⟩) hb0' (fun e => e)).trans d0
          have hb5 : b0 < wy.heap.size := Nat.lt_of_lt_of_le hb0' KY.out.size
          have hrb5 : rb < wy.heap.size := L5.out.lt
          have LC5 := hid (LC.out.kept KY.out (fun _ _ e => e))
          clear htc htd hX hY OX' OY OX T1 T1' T2 KX KY HH LL LC LD d0 hb0' hvc hvd hrb hcX hdX EC hgx0 hgy0 hWs
          clear l1 l2 m1 m2
          go_upto_region 18 with fail
          go_cut [15] from 95 to 101 (fun v w6 => ∃ ap : Bool, v = .bool ap ∧ (ap = true → d ∉ rg c) ∧ (ap = false → d ∈ rg c) ∧ Kept (fun _ => False) wy w6)
          case first =>
            have q23 : ∀ (w : World) (a : Option Addr) (n c n' c' : Nat), (binOp .eql 23 (.slice a n c) (.slice none n' c')).run Try.prog w = .ok (.bool a.isNone) w := fun w a n c n' c' => Lib.run_eql_slice_nil w _ _ a n c n' c' Try.underlying23
            by_cases hap : d ∈ rg c
            · obtain ⟨p1, p2, ep⟩ := List.append_of_mem hap
              have hp : d ∉ p1 := fun e => by have := (RG.out.rnd c hci).1; rw [ep, List.nodup_append] at this; exact this.2.2 d e d (by simp) rfl
              have T := hid (turnedN vc p1 p2 d wy (by rw [← ep]; exact LC5.out) hp (by rw [← ep]; have := RG.out.le hci; omega))
              have HAP := hid hap
              clear ep hp hap
              go_wp2_with fail
              refine T.out.mono ?_
              rintro e w6 ⟨v6, rfl, o6, b6⟩
              obtain ⟨g6, c6, rfl, _, _⟩ := o6.form (by omega)
              have K6 := hid (Kept.of_below (F := fun _ => False) b6)
              clear o6 b6 T
              go_wp2_with fail
              go_meet
              case rel => exact ⟨false, rfl, fun e => by simp at e, fun _ => HAP.out, K6.out⟩
            · have T := hid (turned_no vc (rg c) d wy LC5.out hap (by have := RG.out.le hci; omega))
              have HAP := hid hap
              clear hap
              go_wp2_with fail
              refine T.out.mono ?_
              rintro e w6 ⟨rfl, rfl⟩
              clear T
              go_wp2_with fail
              go_meet
              case rel => exact ⟨true, rfl, fun _ => HAP.out, fun e => by simp at e, Kept.refl _ _⟩
          case rest =>
          obtain ⟨ap, rfl, hap1, hap2, k6⟩ := hcut
          have H6 := hid (H5.out.plain k6)
          have L6 := hid (L5.out.plain k6)
          have LX6 := hid (LX.out.kept k6 (fun _ _ e => e))
          have LY6 := hid (LYd.out.kept k6 (fun _ _ e => e))
          have d6 : wc.cell? ⟨b0, off + j * 3, none⟩ = some (.int .i64 kd) := (k6.cell (p := ⟨b0, _, none⟩) hb5 (fun e => e)).trans d5
          have hb6 : b0 < wc.heap.size := Nat.lt_of_lt_of_le hb5 k6.size
          have hgx6 : gx < wc.heap.size := Nat.lt_of_lt_of_le hgx k6.size
          clear k6 H5 L5 LX LYd d5 hb5 hrb5 LC5 hcY hdY hgx hgy
          go_wp2_with fail
          refine (meterC H6.out.1).mono ?_
          rintro e w7 ⟨rfl, rfl⟩
          go_wp2_with fail
          refine (stepsC H6.out.1).mono ?_
          rintro e w8 ⟨rfl, rfl⟩
          go_upto_region 21 with (at_builtin; refine wpList_append_src rfl (.tmp 105) (.tmp 106) rfl w8.heap.size w8.heap.size _ _ 0 [] (c :: tc) rfl rfl (by exact World.ownsRow_lit (base := w8.heap.size) (e := 3) (size := 1) w8 #[] 0 (Nat.le_refl _) (by simp [maxLen]) rfl) (by exact LX6.out.src.kept ((Kept.refl (fun _ => False) w8).alloc _).plain0) (by have := HX.out; simp; omega) (by simp) ?_; intro v9 w9 o9 g9; have K9 := hid (((Kept.refl (fun _ => False) w8).alloc _).grown g9 (fun k hk => Or.inr (by cases hk; simp))); have O9 := hid o9; clear o9 g9)
          have H9 := hid (H6.out.plain K9.out)
          have L9 := hid (L6.out.plain K9.out)
          have LX9 := hid (LX6.out.kept K9.out (fun _ _ e => e))
          have LY9 := hid (LY6.out.kept K9.out (fun _ _ e => e))
          have LN9 := hid (Lies.of_own (l := c :: tc) (P := Out w G rb) (by have := O9.out; rw [List.length_cons]; simpa using this) (fun b hb _ => Out.of H6.out.1.lt L6.out.lt H6.out.1.bel.size hb))
          obtain ⟨na, ncap, e9⟩ := LN9.out.form
          subst e9
          have d9 : w9.cell? ⟨b0, off + j * 3, none⟩ = some (.int .i64 kd) := (K9.out.cell (p := ⟨b0, _, none⟩) hb6 (fun e => e)).trans d6
          have hb9 : b0 < w9.heap.size := Nat.lt_of_lt_of_le hb6 K9.out.size
          have hrb9 : rb < w9.heap.size := L9.out.lt
          have hgx9 : gx < w9.heap.size := Nat.lt_of_lt_of_le hgx6 K9.out.size
          rw [List.length_cons, ← HX.out] at LN9 ⊢
          clear K9 O9 H6 L6 LX6 LY6 d6 hb6 hgx6
          go_upto_block 4 with fail
          have hbx := LX9.out.bounds
          have hcx : X ≤ cx := hbx.2.1
          have hcm : cx ≤ 2 ^ 63 - 1 := hbx.2.2.1
          clear hbx
          have b1 : (1 : Int) ≤ (X : Int) := by omega
          have b2 : (X : Int) ≤ (cx : Int) := by omega
          have b3 : (1 : Int) ≤ (cx : Int) := by omega
          go_cut [17, 18, 20] from 57 to 183 (fun nv _ _ wx => Mid w wx G pa pm rb i t nv)
          case first =>
            clear d9 hb9
            by_cases hk2 : kd = 2
            · as_aux_lemma =>
              subst hk2
              cases ap with
              | false =>
                go_wp2_with fail
                go_roundw
                case rel => exact ⟨j + 1, t, nx, pv, vs, rg, by go_num, by omega, by omega, H9.out, L9.out, RG.out⟩
                case measure => simp [intOf]; omega
              | true =>
                have RJ := hid (Rgs.join H9.out.2 RG.out hci hdi (hap1 rfl) TC.out TD.out)
                go_wp2_with fail
                refine (joinC H9.out (by omega) (c := c) (d := d) hci hdi).mono ?_
                rintro e w10 ⟨rfl, h10, k10⟩
                have H10 := hid h10
                have L10 := hid (L9.out.stay k10)
                have LX10 := hid (LX9.out.kept k10 (fun b hb => hb.1))
                have SY := hid (LY9.out.kept k10 (fun b hb => hb.1)).src
                clear h10 k10 H9 L9 LX9 LY9 LN9
                by_cases hc1 : cx = 1
                · subst hc1
                  have SX := hid LX10.out.bare.2.2.src
                  clear LX10
                  go_wp2_with fail
                  go_region_held3 (fun _ => True) (trivial)
                    (first
                      | (refine step_append_src rfl (.tmp 139) (.tmp 140) rfl w10.heap.size w10.heap.size _ _ 1 (row nat1 [c]) (d :: td) rfl rfl (by exact World.ownsRow_lit (base := w10.heap.size) (e := 3) (size := 1) _ #[.int .i64 (c : Int)] 1 (Nat.le_refl _) (by simp [maxLen]) rfl) (by exact SY.out.kept (((Kept.refl (fun _ => False) w10).drewN _).alloc _).plain0) (by have := HY.out; simp; omega) (by simp) ?_; intro v1 w11 o1 g1; have K11 := hid ((((Kept.refl (fun _ => False) w10).drewN _).alloc _).grown g1 (fun k hk => Or.inr (by cases hk; simp))); have O11 := hid o1; clear o1 g1)
                      | (refine step_append_src rfl (.tmp 141) (.tmp 143) rfl w10.heap.size w10.heap.size v1 _ _ _ tc rfl rfl (by exact O11.out) (by exact SX.out.kept K11.out.plain0) (by have := HX.out; have := HY.out; simp; omega) (by exact K11.out.size) ?_; intro v2 w12 o2 g2; have K12 := hid (K11.out.grown g2 (fun k hk => Or.inr (O11.out.lt k hk).1)); have O12 := hid o2; clear o2 g2))
                  have OW := hid (show w12.ownsRow w10.heap.size 3 1 v2 (c :: (d :: td) ++ tc).length (row nat1 (c :: (d :: td) ++ tc)) by
                    have := O12.out
                    rw [row_append, show row nat1 (c :: d :: td) = row nat1 [c] ++ row nat1 (d :: td) from rfl, show (c :: (d :: td) ++ tc).length = 1 + (d :: td).length + tc.length by simp; omega]
                    exact this)
                  clear O12 O11 K11
                  go_wp2_with fail
                  go_meet
                  case rel =>
                    have hl := Lies.of_own (P := Out w G rb) OW.out (fun b hb _ => Out.of H10.out.1.lt L10.out.lt H10.out.1.bel.size hb)
                    exact ⟨_, _, _, vs, rg, c :: (d :: td) ++ tc, hl.form, by omega, by omega, H10.out.plain K12.out, L10.out.plain K12.out, hl, RJ.out.2, RJ.out.1⟩
                · have hc2 : ¬ cx - 1 = 0 := by omega
                  have SX := hid LX10.out.tail.src
                  clear LX10
                  go_wp2_with fail
                  go_region_held3 (fun _ => True) (trivial)
                    (first
                      | (refine step_append_src rfl (.tmp 139) (.tmp 140) rfl w10.heap.size w10.heap.size _ _ 1 (row nat1 [c]) (d :: td) rfl rfl (by exact World.ownsRow_lit (base := w10.heap.size) (e := 3) (size := 1) _ #[.int .i64 (c : Int)] 1 (Nat.le_refl _) (by simp [maxLen]) rfl) (by exact SY.out.kept (((Kept.refl (fun _ => False) w10).drewN _).alloc _).plain0) (by have := HY.out; simp; omega) (by simp) ?_; intro v1 w11 o1 g1; have K11 := hid ((((Kept.refl (fun _ => False) w10).drewN _).alloc _).grown g1 (fun k hk => Or.inr (by cases hk; simp))); have O11 := hid o1; clear o1 g1)
                      | (refine step_append_src rfl (.tmp 141) (.tmp 143) rfl w10.heap.size w10.heap.size v1 _ _ _ tc rfl rfl (by exact O11.out) (by exact SX.out.kept K11.out.plain0) (by have := HX.out; have := HY.out; simp; omega) (by exact K11.out.size) ?_; intro v2 w12 o2 g2; have K12 := hid (K11.out.grown g2 (fun k hk => Or.inr (O11.out.lt k hk).1)); have O12 := hid o2; clear o2 g2))
                  have OW := hid (show w12.ownsRow w10.heap.size 3 1 v2 (c :: (d :: td) ++ tc).length (row nat1 (c :: (d :: td) ++ tc)) by
                    have := O12.out
                    rw [row_append, show row nat1 (c :: d :: td) = row nat1 [c] ++ row nat1 (d :: td) from rfl, show (c :: (d :: td) ++ tc).length = 1 + (d :: td).length + tc.length by simp; omega]
                    exact this)
                  clear O12 O11 K11
                  go_wp2_with fail
                  go_meet
                  case rel =>
                    have hl := Lies.of_own (P := Out w G rb) OW.out (fun b hb _ => Out.of H10.out.1.lt L10.out.lt H10.out.1.bel.size hb)
                    exact ⟨_, _, _, vs, rg, c :: (d :: td) ++ tc, hl.form, by omega, by omega, H10.out.plain K12.out, L10.out.plain K12.out, hl, RJ.out.2, RJ.out.1⟩
            · by_cases hk3 : kd = 3
              · as_aux_lemma =>
                subst hk3
                obtain ⟨z, hz⟩ : ∃ z : Int, z = (if nx c = c then -1 else (nx c : Int)) := ⟨_, rfl⟩
                have HZ := hid hz
                clear hz
                have RO := hid (Rgs.out H9.out.2 RG.out hci TC.out)
                go_upto_if 149 with fail
                go_cut [18] from 147 to 152 (fun v wx => v = .int .i64 z ∧ wx = w9)
                case first =>
                  by_cases hX2 : 1 < X
                  · have hX2' : (1 : Int) < (X : Int) := by omega
                    obtain ⟨y, t0, et⟩ : ∃ y t0, tc = y :: t0 := by
                      cases tc with
                      | nil => have := HX.out; simp at this; omega
                      | cons y t0 => exact ⟨y, t0, rfl⟩
                    have hy : w9.cell? ⟨gx, 1, none⟩ = some (.int .i64 (y : Int)) := by
                      have := LX9.out
                      rw [et] at this
                      simpa using this.second
                    have ZY := hid (show z = (y : Int) by rw [HZ.out]; exact TC.out.told2 et)
                    clear et
                    go_wp2_with fail
                    go_meet
                    case rel => exact ⟨by rw [ZY.out], rfl⟩
                  · have hX2' : ¬ (1 : Int) < (X : Int) := by omega
                    have ZY := hid (show z = -1 by rw [HZ.out]; exact TC.out.told1 (List.eq_nil_of_length_eq_zero (show tc.length = 0 by have := HX.out; omega)))
                    go_wp2_with fail
                    go_meet
                    case rel => exact ⟨by rw [ZY.out], rfl⟩
                case rest =>
                obtain ⟨rfl, rfl⟩ := hcut
                go_wp2_with fail
                refine (outC H9.out (by omega) (c := c) hci).mono ?_
                rw [← HZ.out]
                rintro e w10 ⟨rfl, h10, k10⟩
                have H10 := hid h10
                have L10 := hid (L9.out.stay k10)
                have LX10 := hid (LX9.out.kept k10 (fun b hb => hb.1))
                clear h10 k10 H9 L9 LX9 LY9 LN9
                have hrb10 : rb < w10.heap.size := L10.out.lt
                have hfz := L10.out.frozen c
                obtain ⟨v0, _, hcell, _⟩ := L10.out.get hci
                have K11 : Hid (Kept (fun _ => False) w10 (w10.alloc (.cells #[.int .i64 (c : Int)] 3))) := (Kept.refl _ _).alloc _
                have NL : Hid (Lies (Out w G rb) (w10.alloc (.cells #[.int .i64 (c : Int)] 3)) (.slice (some ⟨w10.heap.size, 0, none⟩) 1 1) [c]) :=
                  Lies.of_own (l := [c]) (World.ownsRow_lit (base := w10.heap.size) (e := 3) (size := 1) w10 #[.int .i64 (c : Int)] 1 (Nat.le_refl _) (by simp [maxLen]) rfl) (fun b hb _ => Out.of H10.out.1.lt hrb10 H10.out.1.bel.size hb)
                have EW := hid (World.setCell_alloc_past (w := w10) (.cells #[.int .i64 (c : Int)] 3) rb c (.slice (some ⟨w10.heap.size, 0, none⟩) 1 1) hrb10)
                have H11 := hid ((H10.out.plain K11.out).stored (rb := rb) (i := c) (v := .slice (some ⟨w10.heap.size, 0, none⟩) 1 1) L10.out.out)
                have L11 := hid ((L10.out.plain K11.out).store (k := c) NL.out)
                have LX11 := hid ((LX10.out.kept K11.out (fun _ _ e => e)).stored (i := c) (u := .slice (some ⟨w10.heap.size, 0, none⟩) 1 1))
                rw [EW.out] at H11 L11 LX11
                clear K11 NL H10 L10 LX10
                by_cases hc1 : cx = 1
                · subst hc1
                  obtain ⟨htc, hX1', _⟩ := LX11.out.bare
                  have HTC := hid htc
                  clear htc hX1'
                  go_wp2
                  go_loopw [166, 20] (fun kv _ wr => kv = .int .i64 0 ∧ wr = (w10.setCell ⟨rb, c, none⟩ (.slice (some ⟨w10.heap.size, 0, none⟩) 1 1)).alloc (.cells #[.int .i64 (c : Int)] 3)) (fun _ _ _ => 0)
                  case atStart => exact ⟨rfl, rfl⟩
                  case round =>
                    obtain ⟨rfl, rfl⟩ := hrel
                    go_wp2_with fail
                    go_meet
                    case rel =>
                      refine ⟨_, _, _, _, _, [], ⟨none, 0, rfl⟩, by omega, by omega, H11.out, L11.out, Or.inl ⟨rfl, rfl⟩, fun u hu => (by cases hu), ?_⟩
                      have := RO.out.1
                      rw [HTC.out] at this
                      exact this
                · have hc2 : ¬ cx - 1 = 0 := by omega
                  go_wp2
                  go_loopw [166, 20] (fun kv _ wr => ∃ (m : Nat) (vs' : List Value), kv = .int .i64 m ∧ m ≤ tc.length ∧ Hr w wr G pa pm i i (swN nx pv c c) (swP nx pv c c) (t + 8) ∧ Lay w wr G rb i vs' (fun k => if k ∈ tc.take m then tc else if k = c then [c] else rg k) ∧ Lies (Out w G rb) wr (.slice (some ⟨gx, 0, none⟩) X cx) (c :: tc)) (fun kv _ _ => tc.length - (intOf kv).toNat)
                  case atStart => exact ⟨0, _, rfl, Nat.zero_le _, H11.out, L11.out.eq (fun k hk => by simp), LX11.out⟩
                  case round =>
                    clear H11 L11 LX11
                    obtain ⟨m, vs', rfl, hm, hh, hl, hx⟩ := hrel
                    have H12 := hid hh
                    have L12 := hid hl
                    have LX12 := hid hx
                    clear hh hl hx
                    by_cases hmt : m < tc.length
                    · have hy : tc[m]? = some tc[m] := List.getElem?_eq_getElem hmt
                      have hym : tc[m] ∈ tc := List.getElem_mem hmt
                      generalize tc[m] = y at hy hym
                      have hyi : y < i := RO.out.2 y hym
                      have hcv : wr.cell? ⟨gx, 1 + m, none⟩ = some (.int .i64 (y : Int)) := by simpa using LX12.out.tail.at hy
                      have hbx := LX12.out.bounds
                      have hgxr : gx < wr.heap.size := hbx.2.2.2.1
                      have hm1 : (m : Int) < ((X - 1 : Nat) : Int) := by omega
                      have hm2 : (m : Int) < (X : Int) - 1 := by omega
                      have hyi' : (y : Int) < (i : Int) := by omega
                      have hrbr : rb < wr.heap.size := L12.out.lt
                      have hfzr := L12.out.frozen y
                      obtain ⟨v1, _, hcr, _⟩ := L12.out.get hyi
                      have YM := hid hy
                      have hm99 : m ≤ 1000 := by omega
                      clear hbx hy hym
                      go_wp2
                      go_roundw
                      case rel => exact ⟨m + 1, _, by go_num, by omega, H12.out.stored L12.out.out, (L12.out.store (k := y) LX12.out.tail).eq (fun k _ => take_if YM.out tc (fun k => if k = c then [c] else rg k) k), LX12.out.stored⟩
                      case measure => simp [intOf]; omega
                    · have hbx := LX12.out.bounds.1
                      obtain rfl : m = tc.length := by omega
                      have hm1 : ¬ (tc.length : Int) < ((X - 1 : Nat) : Int) := by omega
                      have hm2 : ¬ (tc.length : Int) < (X : Int) - 1 := by omega
                      have L13 := hid (L12.out.eq (rg' := fun k => if k ∈ tc then tc else if k = c then [c] else rg k) (fun k _ => by rw [List.take_length]))
                      clear hbx L12
                      go_wp2_with fail
                      go_meet
                      case rel =>
                        refine ⟨_, _, _, _, _, [], ⟨none, 0, rfl⟩, by omega, by omega, H12.out, L13.out, Or.inl ⟨rfl, rfl⟩, fun u hu => (by cases hu), ?_⟩
                        simpa using RO.out.1
              · by_cases hk4 : kd = 4
                · as_aux_lemma =>
                  subst hk4
                  by_cases hX2 : 1 < X
                  · have hX2' : (1 : Int) < (X : Int) := by omega
                    go_wp2_with fail
                    go_roundw
                    case rel => exact ⟨j + 1, t, nx, pv, vs, rg, by go_num, by omega, by omega, H9.out, L9.out, RG.out⟩
                    case measure => simp [intOf]; omega
                  · have hX2' : ¬ (1 : Int) < (X : Int) := by omega
                    have RO := hid (Rgs.out H9.out.2 RG.out hci TC.out)
                    have HTC := hid (List.eq_nil_of_length_eq_zero (show tc.length = 0 by have := HX.out; omega))
                    go_wp2_with fail
                    refine (oneC H9.out (by omega) (c := c) hci).mono ?_
                    rintro e w10 ⟨rfl, h10, k10⟩
                    have H10 := hid h10
                    have L10 := hid (L9.out.stay k10)
                    have LN10 := hid (LN9.out.kept k10 (fun b hb => hb.1))
                    clear h10 k10 H9 L9 LX9 LY9 LN9
                    go_wp2_with fail
                    go_meet
                    case rel =>
                      refine ⟨_, _, _, vs, rg, c :: tc, LN10.out.form, by omega, by omega, H10.out, L10.out, LN10.out, Tn.mem_lt RG.out hci TC.out, ?_⟩
                      have := RO.out.1
                      rw [HTC.out] at this ⊢
                      have e : (fun k => if k ∈ ([] : List Nat) then [] else if k = c then [c] else rg k) = (fun k => if k ∈ [c] then [c] else rg k) := by funext k; simp
                      rwa [e] at this
                · as_aux_lemma =>
                  have e2' : (kd == 2) = false := by simpa using hk2
                  have e3' : (kd == 3) = false := by simpa using hk3
                  have e4' : (kd == 4) = false := by simpa using hk4
                  cases ap with
                  | false =>
                    go_wp2_with fail
                    go_roundw
                    case rel => exact ⟨j + 1, t, nx, pv, vs, rg, by go_num, by omega, by omega, H9.out, L9.out, RG.out⟩
                    case measure => simp [intOf]; omega
                  | true =>
                    by_cases hY2 : 1 < Y
                    · have hY2' : (1 : Int) < (Y : Int) := by omega
                      go_wp2_with fail
                      go_roundw
                      case rel => exact ⟨j + 1, t, nx, pv, vs, rg, by go_num, by omega, by omega, H9.out, L9.out, RG.out⟩
                      case measure => simp [intOf]; omega
                    · have hY2' : ¬ (1 : Int) < (Y : Int) := by omega
                      have RJ := hid (Rgs.join H9.out.2 RG.out hci hdi (hap1 rfl) TC.out TD.out)
                      have HTD := hid (List.eq_nil_of_length_eq_zero (show td.length = 0 by have := HY.out; omega))
                      have hdd : nx d = d := by have := TD.out.rnd; rw [HTD.out] at this; exact this.alone
                      have hcd : c ≠ d := fun e => hap1 rfl (e ▸ RG.out.mem c hci)
                      have PC := hid (putC H9.out (by omega) (c := c) (d := d) hci hdi hcd hdd)
                      clear hdd hcd
                      go_wp2_with fail
                      refine PC.out.mono ?_
                      rintro e w10 ⟨rfl, h10, k10⟩
                      have H10 := hid h10
                      have L10 := hid (L9.out.stay k10)
                      have LX10 := hid (LX9.out.kept k10 (fun b hb => hb.1))
                      clear h10 k10 H9 L9 LX9 LY9 LN9 PC
                      by_cases hc1 : cx = 1
                      · subst hc1
                        have SX := hid LX10.out.bare.2.2.src
                        clear LX10
                        go_wp2_with (at_builtin; refine wpList_append_src rfl (.tmp 126) (.tmp 128) rfl w10.heap.size w10.heap.size _ _ 2 (row nat1 [c, d]) tc rfl rfl (by exact World.ownsRow_lit (base := w10.heap.size) (e := 3) (size := 1) _ #[.int .i64 (c : Int), .int .i64 (d : Int)] 2 (Nat.le_refl _) (by simp [maxLen]) rfl) (by exact SX.out.kept (((Kept.refl (fun _ => False) w10)).alloc _).plain0) (by have := HX.out; omega) (by simp) ?_; intro v2 w12 o2 g2; have K12 := hid ((((Kept.refl (fun _ => False) w10)).alloc _).grown g2 (fun k hk => Or.inr (by cases hk; simp))); have O12 := hid o2; clear o2 g2)
                        have OW := hid (show w12.ownsRow w10.heap.size 3 1 v2 (c :: (d :: td) ++ tc).length (row nat1 (c :: (d :: td) ++ tc)) by
                          have := O12.out
                          rw [HTD.out, row_append, show (c :: (d :: []) ++ tc).length = 2 + tc.length by simp; omega]
                          exact this)
                        clear O12
                        go_meet
                        case rel =>
                          have hl := Lies.of_own (P := Out w G rb) OW.out (fun b hb _ => Out.of H10.out.1.lt L10.out.lt H10.out.1.bel.size hb)
                          exact ⟨_, _, _, vs, rg, c :: (d :: td) ++ tc, hl.form, by omega, by omega, H10.out.plain K12.out, L10.out.plain K12.out, hl, RJ.out.2, RJ.out.1⟩
                      · have hc2 : ¬ cx - 1 = 0 := by omega
                        have SX := hid LX10.out.tail.src
                        clear LX10
                        go_wp2_with (at_builtin; refine wpList_append_src rfl (.tmp 126) (.tmp 128) rfl w10.heap.size w10.heap.size _ _ 2 (row nat1 [c, d]) tc rfl rfl (by exact World.ownsRow_lit (base := w10.heap.size) (e := 3) (size := 1) _ #[.int .i64 (c : Int), .int .i64 (d : Int)] 2 (Nat.le_refl _) (by simp [maxLen]) rfl) (by exact SX.out.kept (((Kept.refl (fun _ => False) w10)).alloc _).plain0) (by have := HX.out; omega) (by simp) ?_; intro v2 w12 o2 g2; have K12 := hid ((((Kept.refl (fun _ => False) w10)).alloc _).grown g2 (fun k hk => Or.inr (by cases hk; simp))); have O12 := hid o2; clear o2 g2)
                        have OW := hid (show w12.ownsRow w10.heap.size 3 1 v2 (c :: (d :: td) ++ tc).length (row nat1 (c :: (d :: td) ++ tc)) by
                          have := O12.out
                          rw [HTD.out, row_append, show (c :: (d :: []) ++ tc).length = 2 + tc.length by simp; omega]
                          exact this)
                        clear O12
                        go_meet
                        case rel =>
                          have hl := Lies.of_own (P := Out w G rb) OW.out (fun b hb _ => Out.of H10.out.1.lt L10.out.lt H10.out.1.bel.size hb)
                          exact ⟨_, _, _, vs, rg, c :: (d :: td) ++ tc, hl.form, by omega, by omega, H10.out.plain K12.out, L10.out.plain K12.out, hl, RJ.out.2, RJ.out.1⟩
          case rest =>
          as_aux_lemma =>
            clear RG TC TD HX HY hX1 hX12 hY1 hY12 H9 L9 LX9 LY9 LN9 hap1 hap2 hcx hcm b1 b2 b3 d9 hb9 hrb9 hgx9
            clear nx pv vs rg tc td
            obtain ⟨nx, pv, t', vs, rg, nl, ⟨na', nc', rfl⟩, ht1, ht2, h10, l10, ln10, hnl, hrg⟩ := hcut
            have H10 := hid h10
            have L10 := hid l10
            have LN := hid ln10
            have RG := hid hrg
            have NL := hid hnl
            clear h10 l10 ln10 hrg hnl
            go_wp2_with fail
            refine (meterC H10.out.1).mono ?_
            rintro e w11 ⟨rfl, rfl⟩
            go_wp2_with fail
            refine (stepsC H10.out.1).mono ?_
            rintro e w12 ⟨rfl, rfl⟩
            have hs1 : (t' : Int) - (t : Int) ≤ 12 := by omega
            have hnlen : nl.length ≤ 12 := by
              rcases Nat.eq_zero_or_pos nl.length with e | e
              · omega
              · obtain ⟨x, hx⟩ : ∃ x, x ∈ nl := ⟨nl[0], List.getElem_mem e⟩
                have := RG.out.le (NL.out x hx)
                simp only [if_pos hx] at this
                omega
            go_wp2
            go_loopw [192, 22] (fun kv _ wr => ∃ (m : Nat) (vs' : List Value), kv = .int .i64 m ∧ m ≤ nl.length ∧ Hr w wr G pa pm i i nx pv t' ∧ Lay w wr G rb i vs' (fun k => if k ∈ nl.take m then nl else rg k) ∧ Lies (Out w G rb) wr (.slice na' nl.length nc') nl) (fun kv _ _ => nl.length - (intOf kv).toNat)
            case atStart => exact ⟨0, vs, rfl, Nat.zero_le _, H10.out, L10.out.eq (fun k _ => by simp), LN.out⟩
            case round =>
              clear H10 L10 LN hs1
              clear vs
              obtain ⟨m, vs, rfl, hm, hh, hl, hx⟩ := hrel
              have H12 := hid hh
              have L12 := hid hl
              have LN := hid hx
              clear hh hl hx
              by_cases hmt : m < nl.length
              · have hy : nl[m]? = some nl[m] := List.getElem?_eq_getElem hmt
                have hym : nl[m] ∈ nl := List.getElem_mem hmt
                generalize nl[m] = y at hy hym
                have hyi : y < i := NL.out y hym
                obtain ⟨b1, o1, e1⟩ : ∃ b1 o1, na' = some ⟨b1, o1, none⟩ := by
                  rcases LN.out with ⟨_, en⟩ | ⟨b1, o1, cc, e, _⟩
                  · rw [en] at hmt; simp at hmt
                  · injection e with e; exact ⟨b1, o1, e⟩
                subst e1
                have hcv : wr.cell? ⟨b1, o1 + m, none⟩ = some (.int .i64 (y : Int)) := LN.out.at hy
                have hb1r : b1 < wr.heap.size := by
                  rcases LN.out with ⟨_, en⟩ | ⟨b1, o1, cc, e, _, _, q, _⟩
                  · rw [en] at hmt; simp at hmt
                  · injection e with e; injection e with e; injection e with e; rw [e]; exact q
                have hm1 : (m : Int) < (nl.length : Int) := by omega
                have hyi' : (y : Int) < (i : Int) := by omega
                have hrbr : rb < wr.heap.size := L12.out.lt
                have hfzr := L12.out.frozen y
                obtain ⟨v1, _, hcr, _⟩ := L12.out.get hyi
                have YM := hid hy
                clear hy hym
                go_wp2
                go_roundw
                case rel => exact ⟨m + 1, _, by go_num, by omega, H12.out.stored L12.out.out, (L12.out.store (k := y) LN.out).eq (fun k _ => take_if YM.out _ _ k), LN.out.stored⟩
                case measure => simp [intOf]; omega
              · obtain rfl : m = nl.length := by omega
                have hm1 : ¬ (nl.length : Int) < (nl.length : Int) := by omega
                have L13 := hid (L12.out.eq (rg' := fun k => if k ∈ nl then nl else rg k) (fun k _ => by rw [List.take_length]))
                obtain ⟨rg2, hrg2⟩ : ∃ rg2, rg2 = fun k => if k ∈ nl then nl else rg k := ⟨_, rfl⟩
                rw [← hrg2] at L13 RG
                clear L12 LN hm1 hmt hm hrg2 NL
                go_wp2
                go_loopw [23] (fun kv wr => ∃ (k t2 : Nat), kv = .int .i64 k ∧ k ≤ i ∧ t2 ≤ t' + 30 * k ∧ Hr w wr G pa pm i i nx pv t2 ∧ Lay w wr G rb i vs rg2) (fun kv _ => i - (intOf kv).toNat)
                case atStart => exact ⟨0, t', rfl, Nat.zero_le _, by omega, H12.out, L13.out⟩
                case round =>
                  clear H12 L13
                  obtain ⟨k, t2, rfl, hk, ht3, hh, hl⟩ := hrel
                  have H12 := hid hh
                  have L12 := hid hl
                  clear hh hl
                  by_cases hki : k < i
                  · have hki' : (k : Int) < (i : Int) := by omega
                    obtain ⟨vk, hvs, hvk, lk⟩ := L12.out.get hki
                    obtain ⟨l1, l2, ek, nk, tk⟩ := RG.out.turn hki
                    obtain ⟨ka, kc, ef⟩ := lk.form
                    obtain ⟨K, hK⟩ : ∃ K, K = (rg2 k).length := ⟨_, rfl⟩
                    rw [← hK] at ef
                    subst ef
                    obtain ⟨b, hb1, hb2⟩ : ∃ b : Bool, decide (nx k = k) = b ∧ ((K : Int) == 1) = b := by
                      refine ⟨_, rfl, ?_⟩
                      have := RG.out.alone hki
                      rw [← hK] at this
                      by_cases e : K = 1
                      · simp [e, this.2 e]
                      · have e' : ¬ nx k = k := fun q => e (this.1 q)
                        simp [e', show ¬ (K : Int) = 1 by omega]
                    obtain ⟨wq', hwq'⟩ : ∃ wq', wq' = wr := ⟨wr, rfl⟩
                    subst hwq'
                    have hrbr : rb < wq'.heap.size := L12.out.lt
                    have hGrb : ¬ G rb := L12.out.out.1
                    have hle := tk.le
                    have hKl := RG.out.le hki
                    rw [← hK] at hKl
                    have AL := hid (allC (H12.out.plain ((Kept.refl _ _).drew)) (by omega) (c := k) (tl := l2 ++ l1) (Tn.mem_lt RG.out hki tk) tk.rnd (by omega))
                    have TU := hid (fun (W : World) (kW : Kept G wq' W) => turnedN (.slice ka K kc) l1 l2 k W (by rw [← ek]; exact lk.kept kW (fun _ hb => hb.1)) nk (by rw [← ek]; omega))
                    rw [show l2.length + 1 + l1.length = (l2 ++ l1).length + 1 by simp; omega, show k :: l2 ++ l1 = k :: (l2 ++ l1) from rfl] at TU
                    obtain ⟨tl, htl⟩ : ∃ tl, tl = l2 ++ l1 := ⟨_, rfl⟩
                    rw [← htl] at AL TU hle
                    have SM := hid (fun (va vb : Value) (W : World) (q1 : W.ownsRow 0 3 1 va (tl.length + 1) (row nat1 (k :: tl))) (q2 : W.ownsRow 0 3 1 vb (tl.length + 1) (row nat1 (k :: tl))) => sameN va vb (k :: tl) (k :: tl) rfl (by simp; omega) W q1 q2)
                    have AN := hid (fun (W : World) (hW : Hr w W G pa pm i i nx pv (t2 + 2 * (tl.length + 1))) => aloneC hW (by omega) (c := k) hki)
                    rw [hb1] at AN
                    have FL := hid H12.out.1.lt
                    clear hvs ek nk tk lk hK hb1 htl
                    clear l1 l2
                    go_wp2_with fail
                    go_region_held3 (fun w' => w'.cell? ⟨rb, k, none⟩ = some (.slice ka K kc)) (first | exact hcE | exact hcD | exact hcB | exact hcA | exact hvk)
                      (first
                        | (go_at_call 17; refine AL.out.mono ?_; rintro e wa ⟨va, rfl, oa, ha, kkA⟩; have KA := hid (((Kept.refl G wq').drew).trans' kkA); have hcA := (KA.out.cell (p := ⟨rb, k, none⟩) hrbr hGrb).trans hvk; have HA := hid ha; have OA := hid oa; have LA := hid (L12.out.stay KA.out); clear oa ha kkA)
                        | (go_at_call 20; refine (TU.out _ KA.out).mono ?_; rintro e wb ⟨vb, rfl, ob, bb⟩; have KB := hid (Kept.of_below (F := fun _ => False) bb); have hcB := (KB.out.cell (p := ⟨rb, k, none⟩) LA.out.lt (fun e => e)).trans hcA; have HB := hid (HA.out.plain KB.out); have LB := hid (LA.out.plain KB.out); have OA' := hid (own_base (own_plain OA.out KB.out) (Nat.zero_le _)); have OB := hid (own_base ob (Nat.zero_le _)); clear ob bb)
                        | (go_at_call 16; refine (SM.out _ _ _ OA'.out OB.out).mono ?_; rintro e wd ⟨rfl, nd, rfl⟩; have HD := hid (HB.out.drewN nd); have LD := hid (LB.out.plain ((Kept.refl (fun _ => False) wb).drewN nd)); have hcD : (wb.drewN nd).cell? ⟨rb, k, none⟩ = some (.slice ka K kc) := hcB)
                        | (go_at_call 15; refine (AN.out _ HD.out).mono ?_; rintro e we ⟨rfl, he, kkE⟩; have HE := hid he; have LE := hid (LD.out.stay kkE); have hcE := (kkE.cell (p := ⟨rb, k, none⟩) LD.out.lt hGrb).trans hcD; clear he kkE))
                    go_wp2
                    go_roundw
                    case rel => exact ⟨k + 1, t2 + 2 * (tl.length + 1) + 1, by go_num, by omega, by omega, HE.out, LE.out⟩
                    case measure => simp [intOf]; omega
                  · obtain rfl : k = i := by omega
                    clear hki hk
                    go_wp2
                    go_loopw [24, 25] (fun kv _ wr => ∃ (m t3 : Nat), kv = .int .i64 m ∧ m ≤ k ∧ t3 ≤ t' + 360 + 2 * m ∧ Hr w wr G pa pm k k nx pv t3 ∧ Lay w wr G rb k vs rg2) (fun kv _ _ => k - (intOf kv).toNat)
                    case atStart => exact ⟨0, t2, rfl, Nat.zero_le _, by omega, H12.out, L12.out⟩
                    case round =>
                      clear H12 L12 ht3
                      clear t2
                      obtain ⟨m, t3, rfl, hm, ht3, hh, hl⟩ := hrel
                      have H12 := hid hh
                      have L12 := hid hl
                      clear hh hl
                      by_cases hmk : m < k
                      · have hmk' : (m : Int) < (k : Int) := by omega
                        have hnk := H12.out.2.nlt m hmk
                        have PN := hid (H12.out.2.pn m hmk)
                        obtain ⟨wq', hwq'⟩ : ∃ wq', wq' = wr := ⟨wr, rfl⟩
                        subst hwq'
                        go_wp2_with fail
                        refine (rightC H12.out (by omega) (c := m) hmk).mono ?_
                        rintro e wa ⟨rfl, ha, kkA⟩
                        have HA := hid ha
                        have LA := hid (L12.out.stay kkA)
                        clear ha kkA H12 L12
                        obtain ⟨y, hy⟩ : ∃ y, y = nx m := ⟨_, rfl⟩
                        rw [← hy] at hnk PN ⊢
                        clear hy
                        have hy1 : ((y : Int) == -1) = false := by simp
                        go_wp2_with fail
                        refine (leftC HA.out (by omega) (c := y) hnk).mono ?_
                        rw [PN.out]
                        rintro e wb ⟨rfl, hb, kkB⟩
                        have HB := hid hb
                        have LB := hid (LA.out.stay kkB)
                        clear hb kkB HA LA
                        go_wp2
                        go_roundw
                        case rel => exact ⟨m + 1, t3 + 1 + 1, by go_num, by omega, by omega, HB.out, LB.out⟩
                        case measure => simp [intOf]; omega
                      · obtain rfl : m = k := by omega
                        go_wp2
                        go_roundw
                        case rel => exact ⟨j + 1, t3, nx, pv, vs, rg2, by go_num, by omega, by omega, H12.out, L12.out, RG.out⟩
                        case measure => simp [intOf]; omega
        · as_aux_lemma =>
            have hdone : ¬ j < l.length ∨ (j < l.length ∧ ¬ j < 60) := by
              rcases hq with hq | ⟨hq, hq'⟩
              · exact Or.inl (by omega)
              · exact Or.inr ⟨hq, by omega⟩
            clear hq
            rcases hdone with c1 | ⟨c1, c2⟩
            all_goals
              go_wp2
              go_ret
              exact ⟨rfl, HH.out.1.bel⟩
end Go.Proofs.Yticpldlckdckdaa
