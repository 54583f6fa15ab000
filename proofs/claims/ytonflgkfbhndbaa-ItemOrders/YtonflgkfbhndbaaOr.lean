/- The walk of ItemOrders. -/
import Derived.Test.YtonflgkfbhndbaaMn
import Derived.Test.YtonflgkfbhndbaaRg
import Derived.Deep.DeepCutAuto
namespace Go.Proofs.Ytonflgkfbhndbaa
open Go.ChangeShapes Go.WideShapes Go.ChangeAt Go.RowKit

theorem bef_one {f : Nat → Nat → Int} {c d : Nat} (h : c ≠ d) (hc : f c 8 = c) (hd : f d 8 = d) : (befI f c d != befI f d c) = true := by
  unfold befI bef
  rw [hc, hd]
  by_cases q1 : f c 7 < f d 7
  · rw [decide_eq_true (p := f c 7 < f d 7 ∨ _) (Or.inl q1), decide_eq_false (p := f d 7 < f c 7 ∨ _) (by omega), decide_eq_false (p := f d 7 = f c 7 ∧ _) (by omega)]
    simp
  · by_cases q2 : f d 7 < f c 7
    · rw [decide_eq_true (p := f d 7 < f c 7 ∨ _) (Or.inl q2), decide_eq_false (p := f c 7 < f d 7 ∨ _) (by omega), decide_eq_false (p := f c 7 = f d 7 ∧ _) (by omega)]
      simp
    · have e : f c 7 = f d 7 := by omega
      rw [e]
      rcases Nat.lt_or_gt_of_ne h with q | q
      · simp [q, show ¬ d < c by omega]
      · simp [q, show ¬ c < d by omega]
theorem bef_least {f : Nat → Nat → Int} {c d : Nat} (hc : f c 8 = c) (hd : f d 8 = d) (h : f d 7 ≤ f c 7) (hb : befI f c d = true) : f c 7 = f d 7 ∧ c < d := by
  unfold befI bef at hb
  rw [hc, hd] at hb
  simp at hb
  omega

set_option maxRecDepth 100000 in
set_option maxHeartbeats 4000000 in
theorem orders_walk (a : Option Addr) (cap : Nat) (l : List (Int × Int)) (hlm : l.length ≤ maxLen) (n : Int) (hn : I64 n) (w : World) (hC : Came w a 2 ent2 l) (hI : ∀ x ∈ l, I64 x.1 ∧ I64 x.2) :
    Calls Try.prog 5 #[.slice a l.length cap, .int .i64 n] w fun e w' => e = .returned (.bool true) ∧ Below w.heap.size w w' := by
  have HC := hid hC
  have HI := hid hI
  have HN := hid hn
  obtain ⟨ti, hti, hz0, hz1, hz2⟩ := info_parts info3
  have HT := hid hti
  have Z0 := hid hz0
  have Z1 := hid hz1
  have Z2 := hid hz2
  clear hC hI hti hz0 hz1 hz2 hn
  unfold maxLen at hlm
  go_enter Try.func5, Try.ntmps5
  go_wp2_with fail
  refine (startI 30 (by decide) kf0 w).mono ?_
  rintro e w2 ⟨F, pa, pm, rfl, h2⟩
  have H2 := hid h2
  clear h2
  go_wp2
  go_loopw [6, 7, 8, 9] (fun rv iv _ _ wr => ∃ (i : Nat) (G : Nat → Prop) (f : Nat → Nat → Int), iv = .int .i64 i ∧ i ≤ l.length ∧ i ≤ 20 ∧ HoldA w wr G pa pm (mk 30 i f (3 * i)) ∧ (∀ c, c < i → f c 8 = c ∧ -9223372036854775808 ≤ f c 7) ∧ Mine w wr G 3 1 rv i (row nat1 (List.range' 0 i))) (fun _ i _ _ _ => 20 - (intOf i).toNat)
  case atStart => exact ⟨0, F, kf0, rfl, by omega, by omega, H2.out, fun c h => by omega, Mine.nil _ _ _ _ _⟩
  case round =>
    clear H2
    obtain ⟨i, G, f, rfl, hil, hi, hh, hP, hm⟩ := hrel
    have HH := hid hh
    have P := hid hP
    have M := hid hm
    obtain ⟨ra, rc, rfl⟩ := own_form hm.own
    clear hh hP hm
    go_upto_region 6 with fail
    go_cut [23] from 16 to 23 (fun v wx => v = .bool (decide (i < l.length ∧ i < 20)) ∧ wx = wr)
    case first =>
      by_cases q1 : i < l.length
      · have q1' : decide ((i : Int) < (l.length : Int)) = true := by simp; omega
        by_cases q2 : i < 20
        · have q2' : decide ((i : Int) < 20) = true := by simp; omega
          go_wp2
          go_meet
          case rel => exact ⟨by simp [q1, q2], rfl⟩
        · have q2' : decide ((i : Int) < 20) = false := by simp; omega
          go_wp2
          go_meet
          case rel => exact ⟨by simp [q1, q2], rfl⟩
      · have q1' : decide ((i : Int) < (l.length : Int)) = false := by simp; omega
        go_wp2
        go_meet
        case rel => exact ⟨by simp [q1], rfl⟩
    case rest =>
      obtain ⟨rfl, rfl⟩ := hcut
      by_cases hlt : i < l.length ∧ i < 20
      · rw [decide_eq_true hlt]
        obtain ⟨hlt1, hlt2⟩ := hlt
        have hov : l[i]? = some l[i] := List.getElem?_eq_getElem hlt1
        have OVI := hid (HI.out l[i] (List.getElem_mem hlt1))
        obtain ⟨b0, off, ee, hb0, hc0⟩ := HC.out.get HH.out.bel hov
        subst ee
        generalize l[i] = ov at hov hc0 OVI
        have d0 : wc.cell? ⟨b0, off + i * 2, none⟩ = some (.int .i64 ov.1) := by simpa [ent2] using hc0 0 (by decide)
        have hb0' : b0 < wc.heap.size := Nat.lt_of_lt_of_le hb0 HH.out.bel.size
        have hlt1' : (i : Int) < (l.length : Int) := by omega
        clear hov hc0
        go_wp2_with fail
        refine (newI ov.1 (i : Int) HH.out (by omega) (by omega)).mono ?_
        rintro e w4 ⟨rfl, h4, k4⟩
        have H4 := hid h4
        have M4 := hid (M.out.call k4)
        generalize Grow G wc w4 = G4 at H4 M4
        clear h4 k4 HH M d0
        have NW : Hid (∀ j u, [Value.int .i64 (i : Int)][j]? = some u → (w4.alloc (.cells #[.int .i64 (i : Int)] 3)).cell? ((⟨w4.heap.size, 0, none⟩ : Addr).add j) = some u) := World.news_of_block (heap_alloc_new w4 (.cells #[.int .i64 (i : Int)] 3))
        have hin := M4.out.own.1
        go_wp2_with (at_builtin; refine wpList_append_lies _ rfl (.tmp 39) (.tmp 41) 26 rfl 0 3 ti _ 1 8 Try.underlying26 HT.out Z0.out Z1.out Z2.out rfl (by decide) (.slice ra i rc) i (row nat1 (List.range' 0 i)) rfl (World.ownsRow.alloc M4.out.own _) ⟨w4.heap.size, 0, none⟩ 1 1 [.int .i64 (i : Int)] rfl rfl NW.out (by simp [Value.oneCell']) (by decide) (by simp [maxLen]; omega) (by omega) (Nat.zero_le _) (w4.heap.size + 1) (by simp) ?_; intro g2 cap2 w7 ho hgr hat hlt; have GR := hid hgr; have HO7 := hid ho; have HL := hid hlt; have HA := hid hat; clear ho hgr hat hlt)
        go_roundw
        case rel =>
          refine ⟨i + 1, G4, _, by go_num, by omega, by omega, H4.out.pushed M4.out GR.out, fun c hc => ?_, M4.out.range (by simpa using HO7.out) (HA.out.imp id fun e => by omega) H4.out.is.lt H4.out.bel.size⟩
          by_cases e : c = i
          · subst e
            exact ⟨put_at, by rw [put_nj (by decide), put_at]; exact OVI.out.1.1⟩
          · rw [put_ne e, put_ne e, put0_ne e]
            exact P.out c (by omega)
        case measure => simp [intOf]; omega
      · rw [decide_eq_false hlt]
        have hx : i = l.length ∨ i = 20 := by omega
        clear hlt
        by_cases hi0 : i = 0
        · subst hi0
          go_wp2_with fail
          refine (known_any _).mono ?_
          rintro e w3 ⟨rfl, hb⟩
          have HB := hid (HH.out.bel.trans (hb.mono HH.out.bel.size))
          clear hb
          go_wp2
          go_ret
          exact ⟨rfl, HB.out⟩
        · have hi0' : ((i : Int) == 0) = false := by simp; omega
          go_wp2_with fail
          refine (within_any n HN.out 0 ((i : Int) - 1) (by decide) (by omega) (by omega) wc).mono ?_
          rintro e w3 ⟨k, rfl, hk1, hk2, rfl⟩
          obtain ⟨k, rfl⟩ : ∃ k' : Nat, k = (k' : Int) := ⟨k.toNat, by omega⟩
          have hki : k < i := by omega
          have hki' : (k : Int) < (i : Int) := by omega
          obtain ⟨g, rc', ee, _, hg⟩ := M.out.own.form (by omega)
          cases ee
          have dk : w3.cell? ⟨g, k, none⟩ = some (.int .i64 (k : Int)) := by simpa using mine_rng M.out hki
          have hgG : ¬ G g := (M.out.out g rfl).1
          go_wp2_with fail
          refine (lowerI (-9223372036854775808) HH.out (by omega) (c := k) hki).mono ?_
          rw [decide_eq_true (P.out k hki).2, if_pos (P.out k hki).2]
          rintro e w4 ⟨rfl, ⟨t4, ht4, h4⟩, k4⟩
          have P4 : Hid (∀ c, c < i → put f k 7 (-9223372036854775808) c 8 = c ∧ put f k 7 (-9223372036854775808) k 7 ≤ put f k 7 (-9223372036854775808) c 7) := fun c hc => by
            rw [put_at, put_nj (by decide)]
            refine ⟨(P.out c hc).1, ?_⟩
            by_cases e : c = k
            · subst e; rw [put_at]; exact Int.le_refl _
            · rw [put_ne e]; exact (P.out c hc).2
          have V4 : Hid (put f k 7 (-9223372036854775808) k 7 = -9223372036854775808) := put_at
          have H4 := hid h4
          have M4 := hid (M.out.stay k4)
          have hg4 : g < w4.heap.size := Nat.lt_of_lt_of_le hg k4.size
          clear h4 k4 HH M dk P hg
          generalize put f k 7 (-9223372036854775808) = f4 at H4 P4 V4
          clear f
          go_wp2
          go_loopw [11, 12] (fun iv _ wr => ∃ (x t : Nat), iv = .int .i64 x ∧ x ≤ i ∧ t ≤ 100 + 200 * x ∧ HoldA w wr G pa pm (mk 30 i f4 t) ∧ Mine w wr G 3 1 (.slice (some ⟨g, 0, none⟩) i rc) i (row nat1 (List.range' 0 i))) (fun x _ _ => i - (intOf x).toNat)
          case atStart => exact ⟨0, t4, rfl, by omega, by omega, H4.out, M4.out⟩
          case round =>
            clear H4 M4 hg4 ht4
            clear t4
            obtain ⟨x, t, rfl, hx', ht, hh, hm⟩ := hrel
            have HH := hid hh
            have M := hid hm
            clear hh hm
            by_cases hlt : x < i
            · have hlt' : (x : Int) < (i : Int) := by omega
              go_wp2
              go_loopw [12] (fun jv ws => ∃ (j t' : Nat), jv = .int .i64 j ∧ j ≤ i ∧ t' ≤ t + 8 * j ∧ HoldA w ws G pa pm (mk 30 i f4 t') ∧ Mine w ws G 3 1 (.slice (some ⟨g, 0, none⟩) i rc) i (row nat1 (List.range' 0 i))) (fun j _ => i - (intOf j).toNat)
              case atStart => exact ⟨0, t, rfl, by omega, by omega, HH.out, M.out⟩
              case round =>
                clear HH M
                obtain ⟨j, t', rfl, hj, ht', hh, hm⟩ := hrel
                have HH := hid hh
                have M := hid hm
                have hg : g < wr.heap.size := hm.lt g rfl
                clear hh hm
                have dx : wr.cell? ⟨g, x, none⟩ = some (.int .i64 (x : Int)) := by simpa using mine_rng M.out hlt
                by_cases hjl : j < i
                · have hjl' : (j : Int) < (i : Int) := by omega
                  have dj : wr.cell? ⟨g, j, none⟩ = some (.int .i64 (j : Int)) := by simpa using mine_rng M.out hjl
                  have T1 := hid (beforeI (HH.out.plain ((Kept.refl _ _).drew)) (by omega) (c := x) (d := j) hlt hjl)
                  have B : ∃ b, ((x : Int) != (j : Int)) = b ∧ (befI f4 x j != befI f4 j x) = b := by
                    by_cases e : x = j
                    · subst e; exact ⟨false, by simp, by simp⟩
                    · exact ⟨true, by simp; omega, bef_one e (P4.out x hlt).1 (P4.out j hjl).1⟩
                  obtain ⟨b, hb1, hb2⟩ := B
                  have T2' := hid (fun (wx : World) (h : HoldA w wx G pa pm (mk 30 i f4 (t' + 4))) => beforeI h (by omega) (c := j) (d := x) hjl hlt)
                  have hz : (!(((x : Int) != (j : Int)) == (!(befI f4 x j == befI f4 j x)))) = false := by rw [hb1, show (!(befI f4 x j == befI f4 j x)) = b from hb2]; simp
                  clear hb1 hb2
                  generalize befI f4 x j = r1 at hz T1
                  generalize befI f4 j x = r2 at hz T2'
                  go_wp2_with fail
                  go_region_held3 (fun w' => w'.cell? ⟨g, x, none⟩ = some (.int .i64 (x : Int)) ∧ w'.cell? ⟨g, j, none⟩ = some (.int .i64 (j : Int))) (exact ⟨dx, dj⟩)
                    (first
                      | (go_at_call 20; (with_reducible refine T1.out.mono ?_); rintro e w5 ⟨rfl, h5, k5⟩; have H5 := hid h5; have M5 := hid ((M.out.plain ((Kept.refl _ _).drew)).stay k5); replace dx := (k5.cell (p := ⟨g, x, none⟩) hg hgG).trans dx; replace dj := (k5.cell (p := ⟨g, j, none⟩) hg hgG).trans dj; have T2 := hid (T2'.out w5 h5); have hg5 := Nat.lt_of_lt_of_le hg k5.size; clear h5 k5)
                      | (go_at_call 20; (with_reducible refine T2.out.mono ?_); rintro e w6 ⟨rfl, h6, k6⟩; have H6 := hid h6; have M6 := hid (M5.out.stay k6); replace dx := (k6.cell (p := ⟨g, x, none⟩) hg5 hgG).trans dx; replace dj := (k6.cell (p := ⟨g, j, none⟩) hg5 hgG).trans dj; clear h6 k6))
                  clear T1 T2' T2 H5 M5 dx dj
                  go_wp2
                  go_roundw
                  case rel => exact ⟨j + 1, t' + 4 + 4, by go_num, by omega, by omega, H6.out, M6.out⟩
                  case measure => simp [intOf]; omega
                · obtain rfl : j = i := by omega
                  have dk : wr.cell? ⟨g, k, none⟩ = some (.int .i64 (k : Int)) := by simpa using mine_rng M.out hki
                  by_cases hxk : x = k
                  · have hne : ((x : Int) != (k : Int)) = false := by simp; omega
                    go_wp2_with fail
                    go_quiet (fail)
                    go_wp2
                    go_roundw
                    case rel => exact ⟨x + 1, t', by go_num, by omega, by omega, HH.out.drewN nq, M.out.plain ((Kept.refl _ _).drewN nq)⟩
                    case measure => simp [intOf]; omega
                  · have hne : ((x : Int) != (k : Int)) = true := by simp; omega
                    have T1 := hid (beforeI (HH.out.plain ((Kept.refl _ _).drew)) (by omega) (c := x) (d := k) hlt hki)
                    cases hb : befI f4 x k with
                    | false =>
                      rw [hb] at T1
                      clear hb
                      go_wp2_with fail
                      refine wp_region_noPanic ?_
                      refine wp_region_held_drew (S := (fun w' => w'.cell? ⟨g, x, none⟩ = some (.int .i64 (x : Int)) ∧ w'.cell? ⟨g, k, none⟩ = some (.int .i64 (k : Int)))) (by kernel_rfl) ⟨dx, dk⟩ (fun hHeld => ?_)
                      refine ord_take 0 96 (.int .i64 (x : Int)) rfl rfl (by kernel_rfl) (by kernel_rfl) (by kernel_rfl) (fun _ _ _ h => h) (by rfl) (fun wS hS => by (try dsimp only at hS); go_split_ands; go_simp) (by assumption) ?_
                      simp only [Act.put, List.setIfInBounds_toArray, List.set_cons_zero, List.set_cons_succ]
                      refine ord_take 1 97 (.int .i64 (k : Int)) rfl rfl (by kernel_rfl) (by kernel_rfl) (by kernel_rfl) (fun _ _ _ h => h) (by rfl) (fun wS hS => by (try dsimp only at hS); go_split_ands; go_simp) (by assumption) ?_
                      simp only [Act.put, List.setIfInBounds_toArray, List.set_cons_zero, List.set_cons_succ]
                      refine ord_take 2 98 (.bool true) rfl rfl (by kernel_rfl) (by kernel_rfl) (by kernel_rfl) (fun _ _ _ h => h) (by rfl) (fun wS hS => by (try dsimp only at hS); go_split_ands; go_simp) (by assumption) ?_
                      simp only [Act.put, List.setIfInBounds_toArray, List.set_cons_zero, List.set_cons_succ]
                      refine ord_take 3 99 (.bool true) rfl rfl (by kernel_rfl) (by kernel_rfl) (by kernel_rfl) (fun _ _ _ h => h) (by rfl) (fun wS hS => by (try dsimp only at hS); go_split_ands; go_simp) (by assumption) ?_
                      simp only [Act.put, List.setIfInBounds_toArray, List.set_cons_zero, List.set_cons_succ]
                      refine ord_take 4 100 (.pointer (some ⟨pa, 0, none⟩)) rfl rfl (by kernel_rfl) (by kernel_rfl) (by kernel_rfl) (fun _ _ _ h => h) (by rfl) (fun wS hS => by (try dsimp only at hS); go_split_ands; go_simp) (by assumption) ?_
                      simp only [Act.put, List.setIfInBounds_toArray, List.set_cons_zero, List.set_cons_succ]
                      refine ord_take 5 101 (.slice (some ⟨g, 0, none⟩) j rc) rfl rfl (by kernel_rfl) (by kernel_rfl) (by kernel_rfl) (fun _ _ _ h => h) (by rfl) (fun wS hS => by (try dsimp only at hS); go_split_ands; go_simp) (by assumption) ?_
                      simp only [Act.put, List.setIfInBounds_toArray, List.set_cons_zero, List.set_cons_succ]
                      refine ord_take 6 102 (.int .i64 (x : Int)) rfl rfl (by kernel_rfl) (by kernel_rfl) (by kernel_rfl) (fun _ _ _ h => h) (by rfl) (fun wS hS => by (try dsimp only at hS); go_split_ands; go_simp) (by assumption) ?_
                      simp only [Act.put, List.setIfInBounds_toArray, List.set_cons_zero, List.set_cons_succ]
                      refine ord_take 7 103 (.pointer (some ⟨g, x, none⟩)) rfl rfl (by kernel_rfl) (by kernel_rfl) (by kernel_rfl) (fun _ _ _ h => h) (by rfl) (fun wS hS => by (try dsimp only at hS); go_split_ands; go_simp) (by assumption) ?_
                      simp only [Act.put, List.setIfInBounds_toArray, List.set_cons_zero, List.set_cons_succ]
                      refine ord_take 8 104 (.int .i64 (x : Int)) rfl rfl (by kernel_rfl) (by kernel_rfl) (by kernel_rfl) (fun _ _ _ h => h) (by rfl) (fun wS hS => by (try dsimp only at hS); go_split_ands; go_simp) (by assumption) ?_
                      simp only [Act.put, List.setIfInBounds_toArray, List.set_cons_zero, List.set_cons_succ]
                      refine ord_take 9 105 (.slice (some ⟨g, 0, none⟩) j rc) rfl rfl (by kernel_rfl) (by kernel_rfl) (by kernel_rfl) (fun _ _ _ h => h) (by rfl) (fun wS hS => by (try dsimp only at hS); go_split_ands; go_simp) (by assumption) ?_
                      simp only [Act.put, List.setIfInBounds_toArray, List.set_cons_zero, List.set_cons_succ]
                      refine ord_take 10 106 (.int .i64 (k : Int)) rfl rfl (by kernel_rfl) (by kernel_rfl) (by kernel_rfl) (fun _ _ _ h => h) (by rfl) (fun wS hS => by (try dsimp only at hS); go_split_ands; go_simp) (by assumption) ?_
                      simp only [Act.put, List.setIfInBounds_toArray, List.set_cons_zero, List.set_cons_succ]
                      refine ord_take 11 107 (.pointer (some ⟨g, k, none⟩)) rfl rfl (by kernel_rfl) (by kernel_rfl) (by kernel_rfl) (fun _ _ _ h => h) (by rfl) (fun wS hS => by (try dsimp only at hS); go_split_ands; go_simp) (by assumption) ?_
                      simp only [Act.put, List.setIfInBounds_toArray, List.set_cons_zero, List.set_cons_succ]
                      refine ord_take 12 108 (.int .i64 (k : Int)) rfl rfl (by kernel_rfl) (by kernel_rfl) (by kernel_rfl) (fun _ _ _ h => h) (by rfl) (fun wS hS => by (try dsimp only at hS); go_split_ands; go_simp) (by assumption) ?_
                      simp only [Act.put, List.setIfInBounds_toArray, List.set_cons_zero, List.set_cons_succ]
                      refine wpAnyH_ready (rs := [13]) (by kernel_rfl) (by simp) ?_
                      refine AllReadyH.cons rfl (fun K hK => ?_) AllReadyH.nil
                      go_simp
                      refine T1.out.mono ?_
                      rintro e w5 ⟨rfl, h5, k5⟩
                      have H5 := hid h5
                      have M5 := hid ((M.out.plain ((Kept.refl _ _).drew)).stay k5)
                      replace dx := (k5.cell (p := ⟨g, x, none⟩) hg hgG).trans dx
                      replace dk := (k5.cell (p := ⟨g, k, none⟩) hg hgG).trans dk
                      clear h5 k5
                      go_wp2_with fail
                      refine hK.out _ _ ⟨dx, dk⟩ (fun hHeld => ?_)
                      clear hK K
                      refine ord_take 14 110 (.bool false) rfl rfl (by kernel_rfl) (by kernel_rfl) (by kernel_rfl) (fun _ _ _ h => h) (by rfl) (fun wS hS => by (try dsimp only at hS); go_split_ands; go_simp) (by assumption) ?_
                      simp only [Act.put, List.setIfInBounds_toArray, List.set_cons_zero, List.set_cons_succ]
                      refine ord_take 15 111 (.bool false) rfl rfl (by kernel_rfl) (by kernel_rfl) (by kernel_rfl) (fun _ _ _ h => h) (by rfl) (fun wS hS => by (try dsimp only at hS); go_split_ands; go_simp) (by assumption) ?_
                      simp only [Act.put, List.setIfInBounds_toArray, List.set_cons_zero, List.set_cons_succ]
                      refine ord_skip 16 112 rfl rfl (by kernel_rfl) (by kernel_rfl) (by kernel_rfl) (fun _ _ _ h => h) (by rfl) (by assumption) ?_
                      simp only [Act.put, List.setIfInBounds_toArray, List.set_cons_zero, List.set_cons_succ]
                      refine ord_skip 17 113 rfl rfl (by kernel_rfl) (by kernel_rfl) (by kernel_rfl) (fun _ _ _ h => h) (by rfl) (by assumption) ?_
                      simp only [Act.put, List.setIfInBounds_toArray, List.set_cons_zero, List.set_cons_succ]
                      refine ord_skip 18 114 rfl rfl (by kernel_rfl) (by kernel_rfl) (by kernel_rfl) (fun _ _ _ h => h) (by rfl) (by assumption) ?_
                      simp only [Act.put, List.setIfInBounds_toArray, List.set_cons_zero, List.set_cons_succ]
                      refine ord_skip 19 115 rfl rfl (by kernel_rfl) (by kernel_rfl) (by kernel_rfl) (fun _ _ _ h => h) (by rfl) (by assumption) ?_
                      simp only [Act.put, List.setIfInBounds_toArray, List.set_cons_zero, List.set_cons_succ]
                      refine ord_skip 20 116 rfl rfl (by kernel_rfl) (by kernel_rfl) (by kernel_rfl) (fun _ _ _ h => h) (by rfl) (by assumption) ?_
                      simp only [Act.put, List.setIfInBounds_toArray, List.set_cons_zero, List.set_cons_succ]
                      refine ord_skip 21 117 rfl rfl (by kernel_rfl) (by kernel_rfl) (by kernel_rfl) (fun _ _ _ h => h) (by rfl) (by assumption) ?_
                      simp only [Act.put, List.setIfInBounds_toArray, List.set_cons_zero, List.set_cons_succ]
                      refine ord_skip 22 118 rfl rfl (by kernel_rfl) (by kernel_rfl) (by kernel_rfl) (fun _ _ _ h => h) (by rfl) (by assumption) ?_
                      simp only [Act.put, List.setIfInBounds_toArray, List.set_cons_zero, List.set_cons_succ]
                      refine ord_skip 23 119 rfl rfl (by kernel_rfl) (by kernel_rfl) (by kernel_rfl) (fun _ _ _ h => h) (by rfl) (by assumption) ?_
                      simp only [Act.put, List.setIfInBounds_toArray, List.set_cons_zero, List.set_cons_succ]
                      refine ord_skip 24 120 rfl rfl (by kernel_rfl) (by kernel_rfl) (by kernel_rfl) (fun _ _ _ h => h) (by rfl) (by assumption) ?_
                      simp only [Act.put, List.setIfInBounds_toArray, List.set_cons_zero, List.set_cons_succ]
                      refine ord_skip 25 121 rfl rfl (by kernel_rfl) (by kernel_rfl) (by kernel_rfl) (fun _ _ _ h => h) (by rfl) (by assumption) ?_
                      simp only [Act.put, List.setIfInBounds_toArray, List.set_cons_zero, List.set_cons_succ]
                      refine ord_skip 26 122 rfl rfl (by kernel_rfl) (by kernel_rfl) (by kernel_rfl) (fun _ _ _ h => h) (by rfl) (by assumption) ?_
                      simp only [Act.put, List.setIfInBounds_toArray, List.set_cons_zero, List.set_cons_succ]
                      refine ord_skip 27 123 rfl rfl (by kernel_rfl) (by kernel_rfl) (by kernel_rfl) (fun _ _ _ h => h) (by rfl) (by assumption) ?_
                      simp only [Act.put, List.setIfInBounds_toArray, List.set_cons_zero, List.set_cons_succ]
                      refine ord_skip 28 124 rfl rfl (by kernel_rfl) (by kernel_rfl) (by kernel_rfl) (fun _ _ _ h => h) (by rfl) (by assumption) ?_
                      simp only [Act.put, List.setIfInBounds_toArray, List.set_cons_zero, List.set_cons_succ]
                      refine ord_take 29 125 (.bool false) rfl rfl (by kernel_rfl) (by kernel_rfl) (by kernel_rfl) (fun _ _ _ h => h) (by rfl) (fun wS hS => by (try dsimp only at hS); go_split_ands; go_simp) (by assumption) ?_
                      simp only [Act.put, List.setIfInBounds_toArray, List.set_cons_zero, List.set_cons_succ]
                      refine wpAnyH_done (by kernel_rfl) ?_ _
                      refine NoPanic.normal ?_
                      clear T1 dx dk
                      go_wp2
                      go_roundw
                      case rel => exact ⟨x + 1, t' + 4, by go_num, by omega, by omega, H5.out, M5.out⟩
                      case measure => simp [intOf]; omega
                    | true =>
                      rw [hb] at T1
                      obtain ⟨q1, q2⟩ := bef_least (P4.out x hlt).1 (P4.out k hki).1 (P4.out x hlt).2 hb
                      have T2' := hid (fun (wx : World) (h : HoldA w wx G pa pm (mk 30 j f4 (t' + 4))) => entryI h (by omega) (c := x) hlt)
                      rw [q1, V4.out] at T2'
                      have q2' : decide ((k : Int) < (x : Int)) = false := by simp; omega
                      have hf := fun w => field24 (-9223372036854775808) (f4 x 8) w
                      clear hb q1
                      go_wp2_with fail
                      go_region_held3 (fun w' => w'.cell? ⟨g, x, none⟩ = some (.int .i64 (x : Int)) ∧ w'.cell? ⟨g, k, none⟩ = some (.int .i64 (k : Int))) (exact ⟨dx, dk⟩)
                        (first
                          | (go_at_call 20; (with_reducible refine T1.out.mono ?_); rintro e w5 ⟨rfl, h5, k5⟩; have H5 := hid h5; have M5 := hid ((M.out.plain ((Kept.refl _ _).drew)).stay k5); replace dx := (k5.cell (p := ⟨g, x, none⟩) hg hgG).trans dx; replace dk := (k5.cell (p := ⟨g, k, none⟩) hg hgG).trans dk; have T2 := hid (T2'.out w5 h5); have hg5 := Nat.lt_of_lt_of_le hg k5.size; clear h5 k5)
                          | (go_at_call 17; (with_reducible refine T2.out.mono ?_); rintro e w6 ⟨rfl, h6, k6⟩; have H6 := hid h6; have M6 := hid (M5.out.stay k6); replace dx := (k6.cell (p := ⟨g, x, none⟩) hg5 hgG).trans dx; replace dk := (k6.cell (p := ⟨g, k, none⟩) hg5 hgG).trans dk; clear h6 k6))
                      clear T1 T2' T2 dx dk H5 M5
                      go_wp2
                      go_roundw
                      case rel => exact ⟨x + 1, t' + 4 + 2, by go_num, by omega, by omega, H6.out, M6.out⟩
                      case measure => simp [intOf]; omega
            · obtain rfl : x = i := by omega
              go_wp2_with fail
              refine (known_any _).mono ?_
              rintro e w5 ⟨rfl, hb⟩
              have HB := hid (HH.out.bel.trans (hb.mono HH.out.bel.size))
              clear hb
              go_wp2
              go_ret
              exact ⟨rfl, HB.out⟩
end Go.Proofs.Ytonflgkfbhndbaa
