/- The walk of ArenaTells. -/
import Derived.Test.YtokmefgdbklepaaLift
import Derived.Deep.DeepCutAuto
namespace Go.Proofs.Ytokmefgdbklepaa
open Go.ChangeShapes Go.WideShapes Go.ChangeAt Go.RowKit

/-- an arena with one cell taken -/
def s1 (n : Nat) (x : Nat → Int) (k : Nat) : St := ⟨n, [(x, true)], [], k⟩
theorem s1_start {n : Int} (h1 : 1 ≤ n) (h2 : n ≤ 30) : nextS (st0 n) = 0 ∧ takeS (st0 n) = s1 n.toNat fr 1 := by
  have e : most0 n = n.toNat := by unfold most0; omega
  have e0 : ¬ (0 = n.toNat) := by omega
  unfold nextS takeS st0 s1
  simp [e, e0]
theorem s1_may {n k f : Nat} {x : Nat → Int} (hf : f < 10) : mayS (s1 n x k) 0 f = true := by
  unfold mayS liveS s1
  simp; omega
theorem s1_set {n k f : Nat} {x : Nat → Int} {v : Int} (hf : f < 10) : setS (s1 n x k) 0 f v = s1 n (upd x f v) (k + 1) := by
  unfold setS
  rw [if_pos (s1_may hf)]
  simp [s1, hasS]
theorem s1_get {n k f : Nat} {x : Nat → Int} {v : Int} (hf : f < 10) : getS (s1 n (upd x f v) k) 0 f = v := by
  unfold getS
  rw [if_pos (s1_may hf)]
  simp [s1, hasS, upd]
theorem s1_cell {n k f : Nat} {x : Nat → Int} {v : Int} (hf : f < 10) : cellS (s1 n (upd x f v) k) 0 f = if 0 ≤ v ∧ v < n then v else -1 := by
  unfold cellS
  rw [s1_get hf]
  rfl

theorem stepsA' (pa pm : Nat) (s : St) (F : Nat → Prop) (k : Int) (hk : (s.steps : Int) = k) (w : World) (h : IsA w F pa pm s) :
    Calls Try.prog 20 #[.pointer (some ⟨pm, 0, none⟩)] w fun e w' => e = .returned (.int .i64 k) ∧ w' = w := by
  subst hk
  exact stepsA pa pm s F w h

set_option maxRecDepth 100000 in
set_option maxHeartbeats 4000000 in
theorem tells_walk (p : Int) (hp : I64 p) (a : Option Addr) (cap : Nat) (l : List Int) (w : World) (hC : Came w a 1 oneI l) :
    Calls Try.prog 6 #[.int .i64 p, .slice a l.length cap] w fun e w' => e = .returned (.bool true) ∧ Below w.heap.size w w' := by
  have HC := hid hC
  clear hC
  go_enter Try.func6, Try.ntmps6
  go_wp2_with fail
  refine (within_any p hp 1 30 (by decide) (by decide) (by decide) w).mono ?_
  rintro e w1 ⟨n, rfl, hn1, hn2, rfl⟩
  go_wp2_with fail
  refine (newAH n w1).mono ?_
  rintro e w2 ⟨F, pa, pm, rfl, h2⟩
  have H2 := hid h2
  clear h2
  go_wp2_with fail
  refine (meterA pa pm _ F w2 H2.out.is).mono ?_
  rintro e w3 ⟨rfl, rfl⟩
  go_wp2_with fail
  refine (takeAH H2.out (Nat.zero_le _)).mono ?_
  rw [(s1_start hn1 hn2).1, (s1_start hn1 hn2).2]
  obtain ⟨m, hm⟩ : ∃ m : Nat, n = (m : Int) := ⟨n.toNat, by omega⟩
  subst hm
  rw [show ((m : Int)).toNat = m by omega]
  rintro e w4 ⟨rfl, h4, -⟩
  generalize Grow F w3 w4 = F4 at h4
  have H4 := hid h4
  clear h4 H2
  go_wp2_with fail
  refine (meterA pa pm _ F4 w4 H4.out.is).mono ?_
  rintro e w5 ⟨rfl, rfl⟩
  go_wp2_with fail
  refine (stepsA pa pm _ F4 w5 H4.out.is).mono ?_
  rintro e w6 ⟨rfl, rfl⟩
  rw [show (s1 m fr 1).steps = 1 from rfl]
  go_wp2
  go_loopw [9, 10] (fun sv iv wr => ∃ (i : Nat) (x : Nat → Int), iv = .int .i64 i ∧ sv = .int .i64 ((1 + 3 * i : Nat) : Int) ∧ i ≤ 30 ∧ HoldA w1 wr F4 pa pm (s1 m x (1 + 3 * i))) (fun _ i _ => 30 - (intOf i).toNat)
  case atStart => exact ⟨0, fr, rfl, rfl, by decide, H4.out⟩
  case round =>
    clear H4
    obtain ⟨i, x, rfl, rfl, hi, hH⟩ := hrel
    have HH := hid hH
    clear hH
    rcases (by omega : (i < l.length ∧ i < 30) ∨ ((l.length ≤ i) ∨ (i < l.length ∧ 30 ≤ i))) with hh | hh
    · obtain ⟨hh1, hh2⟩ := hh
      have hx : l[i]? = some l[i] := List.getElem?_eq_getElem hh1
      obtain ⟨b0, off, ee, hb0, hc0⟩ := HC.out.get HH.out.bel hx
      subst ee
      generalize l[i] = v at hx hc0
      have d0 : wr.cell? ⟨b0, off + i, none⟩ = some (.int .i64 v) := by simpa [oneI] using hc0 0 (by decide)
      have hbr : b0 < wr.heap.size := Nat.lt_of_lt_of_le hb0 HH.out.bel.size
      have hbF : ¬ F4 b0 := fun e => by have := HH.out.new _ e; omega
      have hh1' : (i : Int) < (l.length : Int) := by omega
      have hh2' : (i : Int) < 30 := by omega
      obtain ⟨f, hf⟩ : ∃ f : Nat, (i : Int) % 10 = (f : Int) := ⟨i % 10, by omega⟩
      have hft : (i : Int).tmod 10 = (f : Int) := by rw [Int.tmod_eq_emod_of_nonneg (by omega)]; exact hf
      have hf10 : f < 10 := by omega
      obtain ⟨wq, hwq⟩ : ∃ wq, wq = wr := ⟨wr, rfl⟩
      subst hwq
      clear hx hc0 hh1
      have hw1 : ((wq.drewN 1).cell? ⟨b0, off + i, none⟩) = some (.int .i64 v) := d0
      rcases (by omega : v < 0 ∨ ((0 ≤ v ∧ (m : Int) ≤ v) ∨ (0 ≤ v ∧ v < (m : Int)))) with hv | hv | hv
      · have CW := hid (s1_cell (n := m) (k := 1 + 3 * i + 1 + 1) (x := x) (v := v) hf10)
        rw [if_neg (by omega)] at CW
        go_wp2_with fail
        go_region_held3 (fun w' => w'.cell? ⟨b0, off + i, none⟩ = some (.int .i64 v)) (first | exact e3 | exact e2 | exact e1 | exact d0)
          (first
            | (go_at_call 16; refine (setAH 0 (f : Int) v (by exact HH.out.drewN 1) (by show 1 + 3 * i ≤ _; omega)).mono ?_; rw [s1_may hf10, s1_set hf10]; rintro e w7 ⟨rfl, h7, k7⟩; have e1 := (k7.cell (p := ⟨b0, off + i, none⟩) hbr hbF).trans d0; have hb7 : b0 < w7.heap.size := Nat.lt_of_lt_of_le hbr k7.size; have H7 := hid h7; clear h7 k7)
            | (go_at_call 15; refine (getAH 0 (f : Int) (by exact H7.out) (by show 1 + 3 * i + 1 ≤ _; omega)).mono ?_; rw [s1_get hf10]; rintro e w8 ⟨rfl, h8, k8⟩; have e2 := (k8.cell (p := ⟨b0, off + i, none⟩) hb7 hbF).trans e1; have hb8 : b0 < w8.heap.size := Nat.lt_of_lt_of_le hb7 k8.size; have H8 := hid h8; clear h8 k8)
            | (go_at_call 21; refine (cellAH 0 (f : Int) (by exact H8.out) (by show 1 + 3 * i + 1 + 1 ≤ _; omega)).mono ?_; rw [show tick (s1 m (upd x f v) (1 + 3 * i + 1)) = s1 m (upd x f v) (1 + 3 * i + 1 + 1) from rfl, CW.out]; rintro e w9 ⟨rfl, h9, k9⟩; have e3 := (k9.cell (p := ⟨b0, off + i, none⟩) hb8 hbF).trans e2; have H9 := hid h9; clear h9 k9))
        clear d0 hw1 e1 e2 e3 H7 H8 HH hb7 hb8 hbr
        have ST := hid (fun W (hW : IsA W F4 pa pm (tick (s1 m (upd x f v) (1 + 3 * i + 1 + 1)))) => stepsA' pa pm _ F4 (1 + 3 * (i : Int) + 3) (by show ((1 + 3 * i + 1 + 1 + 1 : Nat) : Int) = _; omega) W hW)
        go_wp2_with fail
        refine (meterA pa pm _ F4 w9 H9.out.is).mono ?_
        rintro e w10 ⟨rfl, rfl⟩
        go_wp2_with fail
        refine (ST.out _ H9.out.is).mono ?_
        rintro e w11 ⟨rfl, rfl⟩
        go_wp2_with fail
        refine (liveA pa pm _ F4 0 w11 H9.out.is).mono ?_
        rw [show liveS (tick (s1 m (upd x f v) (1 + 3 * i + 1 + 1))) 0 = true from rfl]
        rintro e w12 ⟨rfl, rfl⟩
        go_wp2_with fail
        refine (meterA pa pm _ F4 w12 H9.out.is).mono ?_
        rintro e w13 ⟨rfl, rfl⟩
        go_wp2_with fail
        refine (ST.out _ H9.out.is).mono ?_
        rintro e w14 ⟨rfl, rfl⟩
        go_wp2
        go_roundw
        case rel => exact ⟨i + 1, upd x f v, by go_num, by go_num, by omega, by rw [show s1 m (upd x f v) (1 + 3 * (i + 1)) = tick (s1 m (upd x f v) (1 + 3 * i + 1 + 1)) by simp only [tick, s1]; congr 1]; exact H9.out⟩
        case measure => simp [intOf]; omega
      · obtain ⟨hva, hvb⟩ := hv
        have hvc : decide (v < (m : Int)) = false := by simp; omega
        have CW := hid (s1_cell (n := m) (k := 1 + 3 * i + 1 + 1) (x := x) (v := v) hf10)
        rw [if_neg (by omega)] at CW
        go_wp2_with fail
        go_region_held3 (fun w' => w'.cell? ⟨b0, off + i, none⟩ = some (.int .i64 v)) (first | exact e3 | exact e2 | exact e1 | exact d0)
          (first
            | (go_at_call 16; refine (setAH 0 (f : Int) v (by exact HH.out.drewN 1) (by show 1 + 3 * i ≤ _; omega)).mono ?_; rw [s1_may hf10, s1_set hf10]; rintro e w7 ⟨rfl, h7, k7⟩; have e1 := (k7.cell (p := ⟨b0, off + i, none⟩) hbr hbF).trans d0; have hb7 : b0 < w7.heap.size := Nat.lt_of_lt_of_le hbr k7.size; have H7 := hid h7; clear h7 k7)
            | (go_at_call 15; refine (getAH 0 (f : Int) (by exact H7.out) (by show 1 + 3 * i + 1 ≤ _; omega)).mono ?_; rw [s1_get hf10]; rintro e w8 ⟨rfl, h8, k8⟩; have e2 := (k8.cell (p := ⟨b0, off + i, none⟩) hb7 hbF).trans e1; have hb8 : b0 < w8.heap.size := Nat.lt_of_lt_of_le hb7 k8.size; have H8 := hid h8; clear h8 k8)
            | (go_at_call 21; refine (cellAH 0 (f : Int) (by exact H8.out) (by show 1 + 3 * i + 1 + 1 ≤ _; omega)).mono ?_; rw [show tick (s1 m (upd x f v) (1 + 3 * i + 1)) = s1 m (upd x f v) (1 + 3 * i + 1 + 1) from rfl, CW.out]; rintro e w9 ⟨rfl, h9, k9⟩; have e3 := (k9.cell (p := ⟨b0, off + i, none⟩) hb8 hbF).trans e2; have H9 := hid h9; clear h9 k9))
        clear d0 hw1 e1 e2 e3 H7 H8 HH hb7 hb8 hbr
        have ST := hid (fun W (hW : IsA W F4 pa pm (tick (s1 m (upd x f v) (1 + 3 * i + 1 + 1)))) => stepsA' pa pm _ F4 (1 + 3 * (i : Int) + 3) (by show ((1 + 3 * i + 1 + 1 + 1 : Nat) : Int) = _; omega) W hW)
        go_wp2_with fail
        refine (meterA pa pm _ F4 w9 H9.out.is).mono ?_
        rintro e w10 ⟨rfl, rfl⟩
        go_wp2_with fail
        refine (ST.out _ H9.out.is).mono ?_
        rintro e w11 ⟨rfl, rfl⟩
        go_wp2_with fail
        refine (liveA pa pm _ F4 0 w11 H9.out.is).mono ?_
        rw [show liveS (tick (s1 m (upd x f v) (1 + 3 * i + 1 + 1))) 0 = true from rfl]
        rintro e w12 ⟨rfl, rfl⟩
        go_wp2_with fail
        refine (meterA pa pm _ F4 w12 H9.out.is).mono ?_
        rintro e w13 ⟨rfl, rfl⟩
        go_wp2_with fail
        refine (ST.out _ H9.out.is).mono ?_
        rintro e w14 ⟨rfl, rfl⟩
        go_wp2
        go_roundw
        case rel => exact ⟨i + 1, upd x f v, by go_num, by go_num, by omega, by rw [show s1 m (upd x f v) (1 + 3 * (i + 1)) = tick (s1 m (upd x f v) (1 + 3 * i + 1 + 1)) by simp only [tick, s1]; congr 1]; exact H9.out⟩
        case measure => simp [intOf]; omega
      · obtain ⟨hva, hvb⟩ := hv
        have CW := hid (s1_cell (n := m) (k := 1 + 3 * i + 1 + 1) (x := x) (v := v) hf10)
        rw [if_pos (by omega)] at CW
        go_wp2_with fail
        go_region_held3 (fun w' => w'.cell? ⟨b0, off + i, none⟩ = some (.int .i64 v)) (first | exact e3 | exact e2 | exact e1 | exact d0)
          (first
            | (go_at_call 16; refine (setAH 0 (f : Int) v (by exact HH.out.drewN 1) (by show 1 + 3 * i ≤ _; omega)).mono ?_; rw [s1_may hf10, s1_set hf10]; rintro e w7 ⟨rfl, h7, k7⟩; have e1 := (k7.cell (p := ⟨b0, off + i, none⟩) hbr hbF).trans d0; have hb7 : b0 < w7.heap.size := Nat.lt_of_lt_of_le hbr k7.size; have H7 := hid h7; clear h7 k7)
            | (go_at_call 15; refine (getAH 0 (f : Int) (by exact H7.out) (by show 1 + 3 * i + 1 ≤ _; omega)).mono ?_; rw [s1_get hf10]; rintro e w8 ⟨rfl, h8, k8⟩; have e2 := (k8.cell (p := ⟨b0, off + i, none⟩) hb7 hbF).trans e1; have hb8 : b0 < w8.heap.size := Nat.lt_of_lt_of_le hb7 k8.size; have H8 := hid h8; clear h8 k8)
            | (go_at_call 21; refine (cellAH 0 (f : Int) (by exact H8.out) (by show 1 + 3 * i + 1 + 1 ≤ _; omega)).mono ?_; rw [show tick (s1 m (upd x f v) (1 + 3 * i + 1)) = s1 m (upd x f v) (1 + 3 * i + 1 + 1) from rfl, CW.out]; rintro e w9 ⟨rfl, h9, k9⟩; have e3 := (k9.cell (p := ⟨b0, off + i, none⟩) hb8 hbF).trans e2; have H9 := hid h9; clear h9 k9))
        clear d0 hw1 e1 e2 e3 H7 H8 HH hb7 hb8 hbr
        have ST := hid (fun W (hW : IsA W F4 pa pm (tick (s1 m (upd x f v) (1 + 3 * i + 1 + 1)))) => stepsA' pa pm _ F4 (1 + 3 * (i : Int) + 3) (by show ((1 + 3 * i + 1 + 1 + 1 : Nat) : Int) = _; omega) W hW)
        go_wp2_with fail
        refine (meterA pa pm _ F4 w9 H9.out.is).mono ?_
        rintro e w10 ⟨rfl, rfl⟩
        go_wp2_with fail
        refine (ST.out _ H9.out.is).mono ?_
        rintro e w11 ⟨rfl, rfl⟩
        go_wp2_with fail
        refine (liveA pa pm _ F4 0 w11 H9.out.is).mono ?_
        rw [show liveS (tick (s1 m (upd x f v) (1 + 3 * i + 1 + 1))) 0 = true from rfl]
        rintro e w12 ⟨rfl, rfl⟩
        go_wp2_with fail
        refine (meterA pa pm _ F4 w12 H9.out.is).mono ?_
        rintro e w13 ⟨rfl, rfl⟩
        go_wp2_with fail
        refine (ST.out _ H9.out.is).mono ?_
        rintro e w14 ⟨rfl, rfl⟩
        go_wp2
        go_roundw
        case rel => exact ⟨i + 1, upd x f v, by go_num, by go_num, by omega, by rw [show s1 m (upd x f v) (1 + 3 * (i + 1)) = tick (s1 m (upd x f v) (1 + 3 * i + 1 + 1)) by simp only [tick, s1]; congr 1]; exact H9.out⟩
        case measure => simp [intOf]; omega
    · have hdone : ¬ i < l.length ∨ (i < l.length ∧ ¬ i < 30) := by
        rcases hh with hh | ⟨hh, hh'⟩
        · exact Or.inl (by omega)
        · exact Or.inr ⟨hh, by omega⟩
      clear hh
      rcases hdone with c1 | ⟨c1, c2⟩
      all_goals
        go_wp2_with fail
        refine (known_any _).mono ?_
        rintro e w7 ⟨rfl, hb7⟩
        have B7 := hid (HH.out.bel.trans (hb7.mono HH.out.bel.size))
        clear hb7 HH
        go_wp2
        go_ret
        exact ⟨rfl, B7.out⟩
end Go.Proofs.Ytokmefgdbklepaa
