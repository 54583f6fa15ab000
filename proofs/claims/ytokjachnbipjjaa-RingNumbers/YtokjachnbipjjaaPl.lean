/- The walk of play: a ring beside a plain list. -/
import Derived.Test.YtokjachnbipjjaaLift
import Derived.Test.YtokjachnbipjjaaSmI
import Derived.Deep.DeepCutAuto
import Derived.Deep.CutBlock
namespace Go.Proofs.Ytokjachnbipjjaa
open Go.ChangeShapes Go.WideShapes Go.ChangeAt Go.RowKit

theorem emp0 (W : World) : (W.alloc (.cells #[] 2)).ownsRow W.heap.size 2 1 (.slice (some ⟨W.heap.size, 0, none⟩) 0 0) 0 [] := World.ownsRow_made (e := 2) (size := 1) W #[] 0 (Nat.le_refl _) (Nat.zero_le _) rfl
theorem emp1 (W : World) : ((W.alloc (.cells #[] 2)).drew).ownsRow W.heap.size 2 1 (.slice (some ⟨W.heap.size, 0, none⟩) 0 0) 0 [] := emp0 W
theorem emp2 (W : World) (o : Obj) : (((W.alloc (.cells #[] 2)).alloc o).drew).ownsRow W.heap.size 2 1 (.slice (some ⟨W.heap.size, 0, none⟩) 0 0) 0 [] := World.ownsRow.alloc (emp0 W) o
theorem emp3 (W : World) (o : Obj) : (((W.alloc o).alloc (.cells #[] 2)).drew).ownsRow W.heap.size 2 1 (.slice (some ⟨W.heap.size + 1, 0, none⟩) 0 0) 0 [] := by
  have := World.ownsRow_made (base := W.heap.size) (e := 2) (size := 1) (W.alloc o) #[] 0 (by simp) (Nat.zero_le _) rfl
  have e : (W.alloc o).heap.size = W.heap.size + 1 := by simp
  rw [e] at this
  exact this
theorem row_tail {w : World} {g cap : Nat} {x : Int} {r : List Int} (h : w.ownsRow 0 2 1 (.slice (some ⟨g, 0, none⟩) (r.length + 1) cap) (r.length + 1) (row oneI (x :: r))) (o : Obj) : ∀ j u, (row oneI r)[j]? = some u → (w.alloc o).cell? ((⟨g, 1, none⟩ : Addr).add j) = some u := fun j u hu => by
  have hj : j < (row oneI r).length := (List.getElem?_eq_some_iff.1 hu).1
  have hadd : (⟨g, 1, none⟩ : Addr).add j = ⟨g, 1 + j, none⟩ := by unfold Addr.add; split <;> simp_all
  have hl : (row oneI r).length = r.length * 1 := row_length oneI_len r
  have hg : g < w.heap.size := (h.lt g rfl).2
  rw [hadd, ((Kept.refl (fun _ => False) w).alloc o).cell (p := ⟨g, 1 + j, none⟩) hg fun e => e, h.cellAt (1 + j) (by omega)]
  rw [show row oneI (x :: r) = oneI x ++ row oneI r from rfl, List.getElem?_append_right (by simp [oneI])]
  simpa [oneI] using hu
theorem lit1 {w : World} {B : Nat} {u : Value} (h : w.heap[B]? = some (.cells #[u] 2)) : w.ownsRow 0 2 1 (.slice (some ⟨B, 0, none⟩) 1 1) 1 [u] := ⟨rfl, Or.inr ⟨B, 1, #[u], rfl, Nat.zero_le _, h, Nat.le_refl _, by decide, rfl, rfl⟩⟩
/-- a row that was made just now is the law's own -/
theorem Mine.made {w0 w w' : World} {F : Nat → Prop} {v : Value} {n : Nat} {xs : List Value} (h : w'.ownsRow w.heap.size 2 1 v n xs) (hF : ∀ k, F k → k < w.heap.size) (hB : w0.heap.size ≤ w.heap.size) : Mine w0 w' F 2 1 v n xs :=
  ⟨h.mono (Nat.zero_le _), fun k hk => ⟨fun e => by have := hF k e; have := (h.lt k hk).1; omega, Nat.le_trans hB (h.lt k hk).1⟩⟩

set_option maxRecDepth 100000 in
set_option maxHeartbeats 4000000 in
theorem play_walk (p : Int) (a : Option Addr) (cap : Nat) (l : List Ask) (w : World) (hC : Came w a 3 ask3 l) :
    Calls Try.prog 7 #[.int .i64 p, .slice a l.length cap] w fun e w' => e = .returned (.bool true) ∧ Below w.heap.size w w' := by
  obtain ⟨ti, hti, hz0, hz1, hz2⟩ := info_parts infoI
  have HT := hid hti
  have Z0 := hid hz0
  have Z1 := hid hz1
  have Z2 := hid hz2
  have HC := hid hC
  clear hti hz0 hz1 hz2 hC
  go_enter Try.func7, Try.ntmps7
  go_wp2_with fail
  refine (newIH p w).mono ?_
  rintro e w2 ⟨F, pa, rfl, h2⟩
  have H2 := hid h2
  clear h2
  go_upto_region 2 with fail
  go_cut [6] from 16 to 18 (fun v wx => v = .int .i64 (room0 p : Int) ∧ wx = w2)
  case first =>
    go_wp2_with fail
    all_goals
      go_meet
      case rel => exact ⟨by unfold room0; congr 1; omega, rfl⟩
  case rest =>
  obtain ⟨rfl, rfl⟩ := hcut
  have hn1 := room0_pos p
  have hn2 := room0_le p
  generalize room0 p = n at *
  go_wp2
  go_loopw [7, 8] (fun mv iv wr => ∃ (i : Nat) (F : Nat → Prop) (q : List Int), iv = .int .i64 i ∧ i ≤ 100 ∧ q.length ≤ i ∧ HoldI w wr F pa n q ∧ Mine w wr F 2 1 mv q.length (row oneI q)) (fun _ i _ => 100 - (intOf i).toNat)
  case atStart => exact ⟨0, F, [], rfl, by decide, Nat.le_refl _, H2.out, Mine.nil _ _ _ _ _⟩
  case round =>
    clear H2 F
    obtain ⟨i, F, q, rfl, hi, hil, hH, hM⟩ := hrel
    have HH := hid hH
    have MM := hid hM
    clear hH hM
    obtain ⟨ma, mc, rfl⟩ := own_form MM.out.own
    have hqn : q.length ≤ n := HH.out.is.fits.1
    rcases (by omega : (i < l.length ∧ i < 100) ∨ ((l.length ≤ i) ∨ (i < l.length ∧ 100 ≤ i))) with hh | hh
    · obtain ⟨hh1, hh2⟩ := hh
      have hx : l[i]? = some l[i] := List.getElem?_eq_getElem hh1
      obtain ⟨b0, off, ee, hb0, hc0⟩ := HC.out.get HH.out.bel hx
      subst ee
      generalize l[i] = y at hx hc0
      obtain ⟨kd, qi, qv⟩ := y
      have d0 : wr.cell? ⟨b0, off + i * 3, none⟩ = some (.int .i64 kd) := by simpa [ask3] using hc0 0 (by decide)
      have d1 : wr.cell? ⟨b0, off + i * 3 + 1, none⟩ = some (.int .i64 qi) := by simpa [ask3, Nat.add_assoc] using hc0 1 (by decide)
      have d2 : wr.cell? ⟨b0, off + i * 3 + 2, none⟩ = some (.int .i64 qv) := by simpa [ask3, Nat.add_assoc] using hc0 2 (by decide)
      have hbr : b0 < wr.heap.size := Nat.lt_of_lt_of_le hb0 HH.out.bel.size
      have hbF : ¬ F b0 := fun e => by have := HH.out.new _ e; omega
      have hh1' : (i : Int) < (l.length : Int) := by omega
      have hh2' : (i : Int) < 100 := by omega
      obtain ⟨wq, hwq⟩ : ∃ wq, wq = wr := ⟨wr, rfl⟩
      subst hwq
      clear hx hc0 hh1
      go_upto_block 2 with fail
      go_cut [7, 9, 10, 11, 12, 13] from 19 to 151 (fun mv _ _ _ _ _ wx => ∃ (F4 : Nat → Prop) (q4 : List Int), (∃ ma mc, mv = .slice ma q4.length mc) ∧ q4.length ≤ i + 1 ∧ HoldI w wx F4 pa n q4 ∧ Mine w wx F4 2 1 mv q4.length (row oneI q4))
      case first =>
        rcases (by omega : kd = 3 ∨ kd = 4 ∨ kd = 5 ∨ (kd ≠ 3 ∧ kd ≠ 4 ∧ kd ≠ 5)) with hk | hk | hk | hk
        · subst hk
          cases q with
          | nil =>
            as_aux_lemma =>
              replace MM : Hid (Mine w wq F 2 1 (.slice ma 0 mc) 0 []) := MM
              rw [show ([] : List Int).length = 0 from rfl]
              go_wp2_with fail
              refine (popNilI pa n F wq HH.out.is).mono ?_
              rintro e w4 ⟨rfl, rfl⟩
              obtain ⟨F4, rfl⟩ : ∃ F4, F4 = F := ⟨_, rfl⟩
              have H4 := HH
              have M4 := MM
              have HL4 : ([] : List Int).length ≤ i + 1 := Nat.zero_le _
              clear HH MM d0 d1 d2 hqn hil
              go_wp2_with fail
              go_meet
              case rel => exact ⟨F4, ([] : List Int), ⟨_, _, rfl⟩, HL4, H4.out, M4.out⟩
          | cons x r =>
            as_aux_lemma =>
              have hxc : ((x :: r)[0]? : Option Int) = some x := rfl
              obtain ⟨g, gc, ee, hg, hgc⟩ := own1_at MM.out.own oneI_len hxc
              cases ee
              replace hgc : wq.cell? ⟨g, 0, none⟩ = some (.int .i64 x) := hgc
              have hgF := (MM.out.out g rfl).1
              have ecap : (x :: r).length ≤ mc := by
                obtain ⟨_, ⟨h', _⟩ | ⟨g', cap', cur, h', _, _, hn', _⟩⟩ := MM.out.own
                · cases h'
                · cases h'; exact hn'
              have hlen : (x :: r).length = r.length + 1 := rfl
              rw [hlen] at hil hqn ecap ⊢
              rw [hlen] at MM
              go_wp2_with fail
              refine (popIH HH.out).mono ?_
              rintro e w4 ⟨rfl, h4, k4⟩
              have m4 := MM.out.call k4
              have e4 := (k4.cell (p := ⟨g, 0, none⟩) hg hgF).trans hgc
              have hg4 : g < w4.heap.size := Nat.lt_of_lt_of_le hg k4.size
              generalize Grow F wq w4 = F4 at h4 m4
              have H4 := hid h4
              have M4 := hid m4
              clear h4 k4 m4 HH MM d0 d1 d2 hgc hg hxc hlen
              by_cases hmc : mc = 1
              · obtain rfl : r = [] := List.eq_nil_of_length_eq_zero (by omega)
                subst hmc
                clear ecap
                rw [show ([] : List Int).length + 1 = 1 from rfl]
                go_wp2_with (at_builtin; refine wpList_append_own _ rfl (.tmp 94) (.tmp 96) 49 rfl w4.heap.size 2 ti _ 1 8 Try.underlying49 HT.out Z0.out Z1.out Z2.out rfl (by decide) (.slice (some ⟨w4.heap.size, 0, none⟩) 0 0) 0 [] rfl (emp0 w4) ⟨g, 0, none⟩ 0 0 [] rfl rfl (by simp) (by simp) (by simp [maxLen] <;> omega) (by omega) (by simp) ?_; intro v5 w5 ho0 hgr hn; have ho : w5.ownsRow w4.heap.size 2 1 v5 0 (row oneI ([] : List Int)) := (by have q := ho0; rw [Nat.zero_add] at q; exact q); obtain ⟨ma5, mc5, rfl⟩ := own_form ho; have K5 : Kept (fun _ => False) w4 w5 := Kept.grown (knew w4 _) hgr (fun k hk => Or.inr (by cases hk; exact Nat.le_refl _)); have H5 := hid (H4.out.plain K5); have M5 := hid (Mine.made (w0 := w) (F := F4) ho H4.out.is.lt H4.out.bel.size); clear ho ho0 hgr hn K5 H4 M4 e4 hg4)
                have H4 := H5
                have M4 := M5
                clear H5 M5 hqn
                have HL4 : ([] : List Int).length ≤ i + 1 := by first | exact Nat.zero_le _ | omega
                go_wp2_with fail
                go_meet
                case rel => exact ⟨F4, ([] : List Int), ⟨_, _, rfl⟩, HL4, H4.out, M4.out⟩
              · have NW := hid (row_tail M4.out.own (.cells #[] 2))
                have hmc1 : ¬ mc - 1 = 0 := by omega
                go_wp2_with (at_builtin; refine wpList_append_own _ rfl (.tmp 94) (.tmp 96) 49 rfl w4.heap.size 2 ti _ 1 8 Try.underlying49 HT.out Z0.out Z1.out Z2.out rfl (by decide) (.slice (some ⟨w4.heap.size, 0, none⟩) 0 0) 0 [] rfl (emp0 w4) ⟨g, 1, none⟩ r.length (mc - 1) (row oneI r) rfl (by rw [row_length oneI_len]) NW.out (row_one oneI_one _) (by simp [maxLen] <;> omega) (by omega) (by simp) ?_; intro v5 w5 ho0 hgr hn; have ho : w5.ownsRow w4.heap.size 2 1 v5 r.length (row oneI r) := (by have q := ho0; rw [Nat.zero_add] at q; exact q); obtain ⟨ma5, mc5, rfl⟩ := own_form ho; have K5 : Kept (fun _ => False) w4 w5 := Kept.grown (knew w4 _) hgr (fun k hk => Or.inr (by cases hk; exact Nat.le_refl _)); have H5 := hid (H4.out.plain K5); have M5 := hid (Mine.made (w0 := w) (F := F4) ho H4.out.is.lt H4.out.bel.size); clear ho ho0 hgr hn K5 H4 M4 e4 hg4)
                have H4 := H5
                have M4 := M5
                clear H5 M5 hqn
                have HL4 : r.length ≤ i + 1 := by first | exact Nat.zero_le _ | omega
                go_wp2_with fail
                go_meet
                case rel => exact ⟨F4, r, ⟨_, _, rfl⟩, HL4, H4.out, M4.out⟩
        · subst hk
          cases q with
          | nil =>
            as_aux_lemma =>
              replace MM : Hid (Mine w wq F 2 1 (.slice ma 0 mc) 0 []) := MM
              rw [show ([] : List Int).length = 0 from rfl]
              go_wp2_with fail
              refine (popNilI pa n F wq HH.out.is).mono ?_
              rintro e w4 ⟨rfl, rfl⟩
              obtain ⟨F4, rfl⟩ : ∃ F4, F4 = F := ⟨_, rfl⟩
              have H4 := HH
              have M4 := MM
              have HL4 : ([] : List Int).length ≤ i + 1 := Nat.zero_le _
              clear HH MM d0 d1 d2 hqn hil
              go_wp2_with fail
              go_meet
              case rel => exact ⟨F4, ([] : List Int), ⟨_, _, rfl⟩, HL4, H4.out, M4.out⟩
          | cons x r =>
            as_aux_lemma =>
              have hxc : ((x :: r)[0]? : Option Int) = some x := rfl
              obtain ⟨g, gc, ee, hg, hgc⟩ := own1_at MM.out.own oneI_len hxc
              cases ee
              replace hgc : wq.cell? ⟨g, 0, none⟩ = some (.int .i64 x) := hgc
              have hgF := (MM.out.out g rfl).1
              have ecap : (x :: r).length ≤ mc := by
                obtain ⟨_, ⟨h', _⟩ | ⟨g', cap', cur, h', _, _, hn', _⟩⟩ := MM.out.own
                · cases h'
                · cases h'; exact hn'
              have hlen : (x :: r).length = r.length + 1 := rfl
              rw [hlen] at hil hqn ecap ⊢
              rw [hlen] at MM
              go_wp2_with fail
              refine (popIH HH.out).mono ?_
              rintro e w4 ⟨rfl, h4, k4⟩
              have m4 := MM.out.call k4
              have e4 := (k4.cell (p := ⟨g, 0, none⟩) hg hgF).trans hgc
              have hg4 : g < w4.heap.size := Nat.lt_of_lt_of_le hg k4.size
              generalize Grow F wq w4 = F4 at h4 m4
              have H4 := hid h4
              have M4 := hid m4
              clear h4 k4 m4 HH MM d0 d1 d2 hgc hg hxc hlen
              by_cases hmc : mc = 1
              · obtain rfl : r = [] := List.eq_nil_of_length_eq_zero (by omega)
                subst hmc
                clear ecap
                rw [show ([] : List Int).length + 1 = 1 from rfl]
                go_wp2_with (at_builtin; refine wpList_append_own _ rfl (.tmp 94) (.tmp 96) 49 rfl w4.heap.size 2 ti _ 1 8 Try.underlying49 HT.out Z0.out Z1.out Z2.out rfl (by decide) (.slice (some ⟨w4.heap.size, 0, none⟩) 0 0) 0 [] rfl (emp0 w4) ⟨g, 0, none⟩ 0 0 [] rfl rfl (by simp) (by simp) (by simp [maxLen] <;> omega) (by omega) (by simp) ?_; intro v5 w5 ho0 hgr hn; have ho : w5.ownsRow w4.heap.size 2 1 v5 0 (row oneI ([] : List Int)) := (by have q := ho0; rw [Nat.zero_add] at q; exact q); obtain ⟨ma5, mc5, rfl⟩ := own_form ho; have K5 : Kept (fun _ => False) w4 w5 := Kept.grown (knew w4 _) hgr (fun k hk => Or.inr (by cases hk; exact Nat.le_refl _)); have H5 := hid (H4.out.plain K5); have M5 := hid (Mine.made (w0 := w) (F := F4) ho H4.out.is.lt H4.out.bel.size); clear ho ho0 hgr hn K5 H4 M4 e4 hg4)
                have H4 := H5
                have M4 := M5
                clear H5 M5 hqn
                have HL4 : ([] : List Int).length ≤ i + 1 := by first | exact Nat.zero_le _ | omega
                go_wp2_with fail
                go_meet
                case rel => exact ⟨F4, ([] : List Int), ⟨_, _, rfl⟩, HL4, H4.out, M4.out⟩
              · have NW := hid (row_tail M4.out.own (.cells #[] 2))
                have hmc1 : ¬ mc - 1 = 0 := by omega
                go_wp2_with (at_builtin; refine wpList_append_own _ rfl (.tmp 94) (.tmp 96) 49 rfl w4.heap.size 2 ti _ 1 8 Try.underlying49 HT.out Z0.out Z1.out Z2.out rfl (by decide) (.slice (some ⟨w4.heap.size, 0, none⟩) 0 0) 0 [] rfl (emp0 w4) ⟨g, 1, none⟩ r.length (mc - 1) (row oneI r) rfl (by rw [row_length oneI_len]) NW.out (row_one oneI_one _) (by simp [maxLen] <;> omega) (by omega) (by simp) ?_; intro v5 w5 ho0 hgr hn; have ho : w5.ownsRow w4.heap.size 2 1 v5 r.length (row oneI r) := (by have q := ho0; rw [Nat.zero_add] at q; exact q); obtain ⟨ma5, mc5, rfl⟩ := own_form ho; have K5 : Kept (fun _ => False) w4 w5 := Kept.grown (knew w4 _) hgr (fun k hk => Or.inr (by cases hk; exact Nat.le_refl _)); have H5 := hid (H4.out.plain K5); have M5 := hid (Mine.made (w0 := w) (F := F4) ho H4.out.is.lt H4.out.bel.size); clear ho ho0 hgr hn K5 H4 M4 e4 hg4)
                have H4 := H5
                have M4 := M5
                clear H5 M5 hqn
                have HL4 : r.length ≤ i + 1 := by first | exact Nat.zero_le _ | omega
                go_wp2_with fail
                go_meet
                case rel => exact ⟨F4, r, ⟨_, _, rfl⟩, HL4, H4.out, M4.out⟩
        · subst hk
          by_cases hin : 0 ≤ qi ∧ qi < (q.length : Int)
          · as_aux_lemma =>
              obtain ⟨h0, h1⟩ := hin
              obtain ⟨k, rfl⟩ := Int.eq_ofNat_of_zero_le h0
              have hkq : k < q.length := by omega
              have hxk : q[k]? = some q[k] := List.getElem?_eq_getElem hkq
              obtain ⟨g, gc, ee, hg, hgc⟩ := own1_at MM.out.own oneI_len hxk
              cases ee
              generalize q[k] = x at hxk hgc
              replace hgc : wq.cell? ⟨g, k, none⟩ = some (.int .i64 x) := hgc
              have HX := hid hxk
              clear hxk hkq
              go_wp2_with fail
              refine (peekI pa n q F k x _ HH.out.is HX.out).mono ?_
              rintro e w4 ⟨rfl, dp, rfl⟩
              obtain ⟨F4, rfl⟩ : ∃ F4, F4 = F := ⟨_, rfl⟩
              have hk4 := (Kept.refl (fun _ => False) _).drewN dp (a := wq)
              have H4 := hid (HH.out.plain hk4)
              have M4 := hid (MM.out.plain hk4)
              clear HH MM hk4
              have HL4 : q.length ≤ i + 1 := by omega
              go_wp2_with fail
              go_meet
              case rel => exact ⟨F4, q, ⟨_, _, rfl⟩, HL4, H4.out, M4.out⟩
          · as_aux_lemma =>
              have hi' : qi < 0 ∨ (q.length : Int) ≤ qi := by omega
              rcases (by omega : qi < 0 ∨ (0 ≤ qi ∧ (q.length : Int) ≤ qi)) with hc | ⟨hc1, hc2⟩
              · have hc3 : decide (qi < 0) = true := by simp; omega
                have hc4 : decide (0 ≤ qi) = false := by simp; omega
                clear hin
                go_wp2_with fail
                refine (peekNoI pa n q F qi _ HH.out.is hi').mono ?_
                rintro e w4 ⟨rfl, rfl⟩
                obtain ⟨F4, rfl⟩ : ∃ F4, F4 = F := ⟨_, rfl⟩
                have H4 := HH
                have M4 := MM
                clear HH MM hi'
                have HL4 : q.length ≤ i + 1 := by omega
                go_wp2_with fail
                go_meet
                case rel => exact ⟨F4, q, ⟨_, _, rfl⟩, HL4, H4.out, M4.out⟩
              · have hc3 : decide (qi < 0) = false := by simp; omega
                have hc4 : decide (qi < (q.length : Int)) = false := by simp; omega
                clear hin
                go_wp2_with fail
                refine (peekNoI pa n q F qi _ HH.out.is hi').mono ?_
                rintro e w4 ⟨rfl, rfl⟩
                obtain ⟨F4, rfl⟩ : ∃ F4, F4 = F := ⟨_, rfl⟩
                have H4 := HH
                have M4 := MM
                clear HH MM hi'
                have HL4 : q.length ≤ i + 1 := by omega
                go_wp2_with fail
                go_meet
                case rel => exact ⟨F4, q, ⟨_, _, rfl⟩, HL4, H4.out, M4.out⟩
        · obtain ⟨hk3, hk4, hk5⟩ := hk
          by_cases hq : q.length < n
          · as_aux_lemma =>
              go_wp2_with fail
              refine (pushIH qv HH.out).mono ?_
              rw [decide_eq_true hq, if_pos hq]
              rintro e W ⟨rfl, h4, k4⟩
              have m4 := MM.out.call k4
              have d2' := (k4.cell (p := ⟨b0, off + i * 3 + 2, none⟩) hbr hbF).trans d2
              have hbW : b0 < W.heap.size := Nat.lt_of_lt_of_le hbr k4.size
              generalize Grow F wq W = F4 at h4 m4
              have H4 := hid h4
              have M4 := hid m4
              have hq' : decide ((q.length : Int) < (n : Int)) = true := by simp; omega
              clear h4 m4 k4 HH MM d0 d1 d2
              obtain ⟨q4, hq4⟩ : ∃ q4, q4 = q ++ [qv] := ⟨_, rfl⟩
              rw [← hq4] at H4
              have HN4 := hid (show 0 + q.length + 1 = q4.length by rw [hq4]; simp)
              have HR4 := hid (show [] ++ row oneI q ++ [.int .i64 qv] = row oneI q4 by rw [hq4, row_snoc]; rfl)
              clear hq4
              go_wp2_with fail
              go_region_law (first
                | (refine step_append_row rfl (.tmp 52) (.tmp 53) 49 rfl W.heap.size 2 ti _ 1 8 Try.underlying49 HT.out Z0.out Z1.out Z2.out rfl (by decide) _ (.slice ma q.length mc) 0 q.length [] (row oneI q) rfl rfl (by first | exact emp1 W | exact emp2 W _ | exact emp3 W _) (by exact own_plain M4.out.own (by first | exact k1 W _ | exact k2 W _ _)) (row_one oneI_one _) (by simp [maxLen]; omega) (by omega) (by simp <;> omega) ?_; intro v1 w2 o1 g1; have KF : Kept (fun _ => False) W w2 := Kept.grown (by first | exact k1 W _ | exact k2 W _ _) g1 (fun k hk => Or.inr (by cases hk; simp)); (first | (have hB : w2.heap[W.heap.size + 1]? = some (.cells #[.int .i64 qv] 2) := (g1.block _ (by simp) (show some (W.heap.size + 1) ≠ some W.heap.size by simp)).trans (new_at1 W _ _)) | (have hB : w2.heap[W.heap.size]? = some (.cells #[.int .i64 qv] 2) := (g1.block _ (by simp <;> omega) (show some W.heap.size ≠ some (W.heap.size + 1) by simp)).trans (new_at0 W _ _)) | skip); have O1 := hid o1; have c3 := (KF.cell (p := ⟨b0, off + i * 3 + 2, none⟩) hbW fun e => e).trans d2'; have hs2 := KF.size; have hbW2 := Nat.lt_of_lt_of_le hbW hs2; have KF2 := hid KF; clear o1 g1 KF)
                | (refine step_append_row rfl (.tmp 54) (.tmp 60) 49 rfl W.heap.size 2 ti _ 1 8 Try.underlying49 HT.out Z0.out Z1.out Z2.out rfl (by decide) v1 _ (0 + q.length) 1 ([] ++ row oneI q) [.int .i64 qv] rfl rfl (by first | exact O1.out | exact own_plain O1.out ((Kept.refl _ _).alloc _)) (by first | exact lit1 hB | exact lit1 (heap_alloc_new w2 _)) (by simp [Value.oneCell']) (by simp [maxLen]; omega) (by omega) (by first | exact hs2 | (simp; omega)) ?_; intro v2 w3 o2 g2; rw [HN4.out, HR4.out] at o2; obtain ⟨bb, bc, rfl, hbb, hbl3⟩ := o2.form (by have := HN4.out; omega); have KF : Kept (fun _ => False) W w3 := Kept.grown (by first | exact KF2.out | exact KF2.out.alloc _) g2 (fun k hk => Or.inr (O1.out.lt k hk).1); have O2 := hid o2; have KF3 := hid KF; clear o2 g2 KF))
              all_goals
                go_wp2_with fail
                go_meet
                case rel => exact ⟨F4, q4, ⟨_, _, rfl⟩, by have := HN4.out; omega, H4.out.plain KF3.out, Mine.made (w0 := w) (F := F4) O2.out H4.out.is.lt H4.out.bel.size⟩
          · as_aux_lemma =>
              go_wp2_with fail
              refine (pushIH qv HH.out).mono ?_
              rw [decide_eq_false hq, if_neg hq]
              rintro e w4 ⟨rfl, h4, k4⟩
              have m4 := MM.out.call k4
              generalize Grow F wq w4 = F4 at h4 m4
              have H4 := hid h4
              have M4 := hid m4
              have hq' : decide ((q.length : Int) < (n : Int)) = false := by simp; omega
              clear h4 m4 k4 HH MM
              have HL4 : q.length ≤ i + 1 := by omega
              go_wp2_with fail
              go_meet
              case rel => exact ⟨F4, q, ⟨_, _, rfl⟩, HL4, H4.out, M4.out⟩
      case rest =>
        as_aux_lemma =>
          obtain ⟨F4, q4, ⟨ma4, mc4, rfl⟩, hl4, h4, m4⟩ := hcut
          have H4 := hid h4
          have M4 := hid m4
          clear h4 m4 HH MM d0 d1 d2 hbF hqn hil
          have hqn4 : q4.length ≤ n := H4.out.is.fits.1
          go_wp2_with fail
          refine (lenI pa n q4 F4 _ H4.out.is).mono ?_
          rintro e w5 ⟨rfl, rfl⟩
          go_wp2_with fail
          refine (roomI pa n q4 F4 _ H4.out.is).mono ?_
          rintro e w6 ⟨rfl, dr, rfl⟩
          have hk6 := (Kept.refl (fun _ => False) _).drewN dr (a := w5)
          have H6 := hid (H4.out.plain hk6)
          have M6 := hid (M4.out.plain hk6)
          clear H4 M4 hk6
          go_wp2_with fail
          refine (allI pa n q4 F4 _ H6.out.is).mono ?_
          rintro e w7 ⟨v7, rfl, ho7, hb7⟩
          have K7 := hid (Kept.of_below (F := fun _ => False) hb7)
          have O7 := hid (ho7.mono (Nat.zero_le _))
          have H7 := hid (H6.out.plain K7.out)
          have M7 := hid (M6.out.plain K7.out)
          clear ho7 hb7 H6 M6 K7
          go_wp2_with fail
          refine (sameI v7 _ q4 (by omega) w7 O7.out M7.out.own).mono ?_
          rintro e w8 ⟨rfl, d8, rfl⟩
          have hk8 := (Kept.refl (fun _ => False) _).drewN d8 (a := w7)
          have H8 := hid (H7.out.plain hk8)
          have M8 := hid (M7.out.plain hk8)
          clear H7 M7 O7 hk8
          go_wp2
          go_roundw
          case rel => exact ⟨i + 1, F4, q4, by go_num, by omega, hl4, H8.out, M8.out⟩
          case measure => simp [intOf]; omega
    · have hdone : ¬ i < l.length ∨ (i < l.length ∧ ¬ i < 100) := by
        rcases hh with hh | ⟨hh, hh'⟩
        · exact Or.inl (by omega)
        · exact Or.inr ⟨hh, by omega⟩
      clear hh MM
      rcases hdone with c1 | ⟨c1, c2⟩
      all_goals
        go_wp2
        go_ret
        exact ⟨rfl, HH.out.bel⟩
end Go.Proofs.Ytokjachnbipjjaa
