/- Lists of numbers in memory; the walks of Right, of count and of Within. -/
import Derived.Test.YtmfnbgljioecpaaSk
import Derived.Lib.Small
namespace Go.Proofs.Ytmfnbgljioecpaa
open Go.ChangeShapes Go.WideShapes Go.ChangeAt Go.RowKit

theorem info3i : (Try.prog.info? 3).map (fun i => (i.zero, i.size, i.bytes)) = some (some (.int .i64 0), 1, 8) := by kernel_rfl

/-- a list that lies in memory -/
def Lst (w : World) (v : Value) (l : List Int) : Prop :=
  ∃ a c, v = .slice a l.length c ∧ l.length ≤ c ∧ c ≤ maxLen ∧ (a = none → c = 0) ∧ (l = [] ∨ ∃ b off, a = some ⟨b, off, none⟩ ∧ b < w.heap.size ∧ ∀ (i : Nat) (x : Int), l[i]? = some x → w.cell? ⟨b, off + i, none⟩ = some (.int .i64 x))

theorem Lst.below {w w' : World} {v : Value} {l : List Int} (h : Lst w v l) (k : Below w.heap.size w w') : Lst w' v l := by
  obtain ⟨a, c, e, h1, h2, h3, h4⟩ := h
  refine ⟨a, c, e, h1, h2, h3, ?_⟩
  rcases h4 with h4 | ⟨b, off, e, hb, hc⟩
  · exact Or.inl h4
  · exact Or.inr ⟨b, off, e, Nat.lt_of_lt_of_le hb k.size, fun i x hx => (k.cell (p := ⟨b, _, none⟩) hb).trans (hc i x hx)⟩
theorem Lst.nil (w : World) : Lst w (.slice none 0 0) [] := ⟨none, 0, rfl, Nat.le_refl _, Nat.zero_le _, fun _ => rfl, Or.inl rfl⟩

open Classical in
noncomputable def rb (l : List Int) : Bool := decide (R l)
theorem rb_true {l : List Int} : rb l = true ↔ R l := by simp [rb]
theorem rb_false {l : List Int} : rb l = false ↔ ¬ R l := by simp [rb]

set_option maxHeartbeats 2000000 in
theorem right_any (v : Value) (l : List Int) (w : World) (h : Lst w v l) (hl : l.length ≤ 1000) :
    Calls Try.prog 18 #[v] w fun e w' => e = .returned (.bool (rb l)) ∧ ∃ n, w' = w.drewN n := by
  obtain ⟨a, c, rfl, h1, h2, h3, h4⟩ := h
  have H4 := hid h4
  clear h4 h3 h2
  go_enter Try.func18, Try.ntmps18
  go_wp2
  go_loopw [3] (fun iv wr => ∃ (j n : Nat), iv = .int .i64 (j : Int) ∧ 1 ≤ j ∧ (j ≤ l.length ∨ j = 1) ∧ wr = w.drewN n ∧ Hid (∀ i, i + 1 < j → Adj l i)) (fun i _ => l.length + 2 - (intOf i).toNat)
  case atStart => exact ⟨1, 0, rfl, Nat.le_refl _, Or.inr rfl, rfl, hid fun i hi => by omega⟩
  case round =>
    obtain ⟨j, n, rfl, hj1, hj2, rfl, hadj⟩ := hrel
    by_cases hlt : j < l.length
    · obtain ⟨k, hk⟩ : ∃ k, j = k + 1 := ⟨j - 1, by omega⟩
      have hji : (j : Int) - 1 = (k : Int) := by omega
      have hwi : IntKind.i64.wrap (k : Int) = k := IntWalk.i64_in _ (by omega)
      have hx : l[j]? = some l[j] := List.getElem?_eq_getElem hlt
      have hkl : k < l.length := by omega
      have hy : l[k]? = some l[k] := List.getElem?_eq_getElem hkl
      generalize l[j] = x at hx
      generalize l[k] = y at hy
      rcases H4.out with e | ⟨b, off, rfl, hb, hc⟩
      · subst e; simp at hlt
      have c1 : w.cell? ⟨b, off + j, none⟩ = some (.int .i64 x) := hc _ _ hx
      have c2 : w.cell? ⟨b, off + k, none⟩ = some (.int .i64 y) := hc _ _ hy
      have hlt' : (j : Int) < (l.length : Int) := by omega
      have hkl' : (k : Int) < (l.length : Int) := by omega
      have HX := hid hx
      have HY := hid hy
      have HK := hid hk
      have STEP : Hid (x < y ∨ (x = y ∧ 1 < j) ∨ (¬ x < y ∧ (x = y → ¬ 1 < j))) := hid (by by_cases x < y <;> by_cases x = y <;> by_cases 1 < j <;> simp_all)
      clear hx hy hc hk
      by_cases q1 : x < y
      · have q1' : decide (x < y) = true := by simp [q1]
        go_wp2_with fail
        go_quiet (fail)
        go_wp2
        go_ret
        refine ⟨?_, n + nq, by simp [go_sem]⟩
        have hx := HX.out; rw [HK.out] at hx
        rw [show rb l = false from rb_false.2 fun h => by have := (((R_iff l).1 h).2 k y x HY.out hx).1; omega]; rfl
      · have q1' : decide (x < y) = false := by simp [q1]
        by_cases q2 : x = y
        · have q2' : (x == y) = true := by simp [q2]
          by_cases q3 : 1 < j
          · have q3' : decide (1 < (j : Int)) = true := by simp; omega
            clear q2
            go_wp2_with fail
            go_quiet (fail)
            go_wp2
            go_ret
            refine ⟨?_, n + nq, by simp [go_sem]⟩
            have hx := HX.out; rw [HK.out] at hx
            rw [show rb l = false from rb_false.2 fun h => by have := (((R_iff l).1 h).2 k y x HY.out hx).2 (by have := HK.out; omega); simp at q2'; omega]; rfl
          · have q3' : decide (1 < (j : Int)) = false := by simp; omega
            clear q2
            go_wp2_with fail
            go_quiet (fail)
            go_wp2
            go_roundw
            case rel =>
              refine ⟨j + 1, n + nq, by go_num, by omega, by omega, by simp [go_sem], hid fun i hi => ?_⟩
              by_cases c : i + 1 < j
              · exact hadj.out i c
              · have hx := HX.out; rw [HK.out] at hx
                have hik : i = k := by have := HK.out; omega
                subst hik
                intro y' x' hy' hx'
                rw [HY.out] at hy'; rw [hx] at hx'
                injection hy' with e1; injection hx' with e2
                subst e1; subst e2
                simp at q2'
                have := HK.out
                exact ⟨by omega, fun _ => by omega⟩
            case measure => simp [intOf]; omega
        · have q2' : (x == y) = false := by simp [q2]
          clear q2
          go_wp2_with fail
          go_quiet (fail)
          go_wp2
          go_roundw
          case rel =>
            refine ⟨j + 1, n + nq, by go_num, by omega, by omega, by simp [go_sem], hid fun i hi => ?_⟩
            by_cases c : i + 1 < j
            · exact hadj.out i c
            · have hx := HX.out; rw [HK.out] at hx
              have hik : i = k := by have := HK.out; omega
              subst hik
              intro y' x' hy' hx'
              rw [HY.out] at hy'; rw [hx] at hx'
              injection hy' with e1; injection hx' with e2
              subst e1; subst e2
              simp at q2'
              exact ⟨by omega, fun _ => by omega⟩
          case measure => simp [intOf]; omega
    · have HA : Hid (∀ i, Adj l i) := hid fun i x y hx hy => hadj.out i (by have := (List.getElem?_eq_some_iff.1 hy).1; omega) x y hx hy
      have HI := R_ends HA.out
      rcases H4.out with e | ⟨b, off, rfl, hb, hc⟩
      · subst e
        simp only [List.length_nil] at hj2 hlt hl h1 ⊢
        clear HI HA H4 hadj
        go_wp2
        go_ret
        refine ⟨?_, _, rfl⟩
        rw [show rb [] = true from rb_true.2 R_nil]; rfl
      · by_cases h0 : l = []
        · subst h0
          simp only [List.length_nil] at hj2 hlt hl h1 ⊢
          clear HI HA H4 hadj hc
          go_wp2
          go_ret
          refine ⟨?_, _, rfl⟩
          rw [show rb [] = true from rb_true.2 R_nil]; rfl
        · have HI := hid (HI h0)
          have hp : 0 < l.length := List.length_pos_iff.2 h0
          obtain ⟨k, hk⟩ : ∃ k, l.length = k + 1 := ⟨l.length - 1, by omega⟩
          have hx : l[0]? = some l[0] := List.getElem?_eq_getElem hp
          have hy : l[k]? = some l[k] := List.getElem?_eq_getElem (by omega)
          have HE : Hid (rb l = (decide ((0 : Int) ≤ l[0]) && decide (l[k] ≤ (28 : Int)))) := hid (by
            have := HI.out
            rw [show l.length - 1 = k by omega, hx, hy] at this
            simp only [Option.getD_some] at this
            cases e : rb l
            · have := fun q => rb_false.1 e (this.2 q)
              by_cases q1 : (0 : Int) ≤ l[0]
              · by_cases q2 : l[k] ≤ (28 : Int)
                · exact absurd ⟨q1, q2⟩ this
                · rw [decide_eq_false q2]; simp
              · rw [decide_eq_false q1]; simp
            · have := this.1 (rb_true.1 e); simp [this.1, this.2])
          generalize l[0] = x at hx HE
          generalize l[k] = y at hy HE
          have c1 : w.cell? ⟨b, off, none⟩ = some (.int .i64 x) := hc _ _ hx
          have c2 : w.cell? ⟨b, off + k, none⟩ = some (.int .i64 y) := hc _ _ hy
          have HL := hid hk
          have hki : ((k : Int) + 1) - 1 = k := by omega
          rw [hk] at hlt h1 hl hj2 ⊢
          clear hx hy hc hk HI h0 hp HA hadj H4
          by_cases q1 : (0 : Int) ≤ x
          · have q1' : decide (0 ≤ x) = true := by simp [q1]
            have hk0 : ((k : Int) + 1 == 0) = false := by simp; omega
            go_wp2
            go_ret
            exact ⟨by have e := HE.out; rw [q1', Bool.true_and] at e; rw [e]; rfl, n, rfl⟩
          · have q1' : decide (0 ≤ x) = false := by simp [q1]
            have hk0 : ((k : Int) + 1 == 0) = false := by simp; omega
            go_wp2
            go_ret
            exact ⟨by have e := HE.out; rw [q1', Bool.false_and] at e; rw [e]; rfl, n, rfl⟩

set_option maxHeartbeats 4000000 in
theorem refRight_any (v : Value) (l : List Int) (w : World) (h : Lst w v l) (hl : l.length ≤ 1000) :
    Calls Try.prog 17 #[v] w fun e w' => e = .returned (.bool (rb l)) ∧ ∃ n, w' = w.drewN n := by
  obtain ⟨a, c, rfl, h1, h2, h3, h4⟩ := h
  have H4 := hid h4
  clear h4 h3 h2
  go_enter Try.func17, Try.ntmps17
  go_wp2
  go_loopw [3] (fun iv wr => ∃ (j n : Nat), iv = .int .i64 (j : Int) ∧ j ≤ l.length ∧ wr = w.drewN n ∧ Hid (∀ i x, i < j → l[i]? = some x → 0 ≤ x ∧ x ≤ 28) ∧ Hid (∀ i, i + 1 < j → Adj l i)) (fun i _ => l.length + 2 - (intOf i).toNat)
  case atStart => exact ⟨0, 0, rfl, Nat.zero_le _, rfl, hid fun i x hi => by omega, hid fun i hi => by omega⟩
  case round =>
    obtain ⟨j, n, rfl, hj, rfl, hbd, hadj⟩ := hrel
    by_cases hlt : j < l.length
    · have hx : l[j]? = some l[j] := List.getElem?_eq_getElem hlt
      generalize l[j] = x at hx
      rcases H4.out with e | ⟨b, off, rfl, hb, hc⟩
      · subst e; simp at hlt
      have c1 : w.cell? ⟨b, off + j, none⟩ = some (.int .i64 x) := hc _ _ hx
      have hlt' : (j : Int) < (l.length : Int) := by omega
      have HX := hid hx
      have HB : Hid (0 ≤ x → x ≤ 28 → ∀ i z, i < j + 1 → l[i]? = some z → 0 ≤ z ∧ z ≤ 28) := hid fun a1 a2 i z hi hz => by
        by_cases c : i < j
        · exact hbd.out i z c hz
        · obtain rfl : i = j := by omega
          rw [HX.out] at hz; injection hz with e; subst e; exact ⟨a1, a2⟩
      clear hx
      by_cases p1 : x < 0
      · have p1' : decide (x < 0) = true := by simp [p1]
        clear hc
        go_wp2_with fail
        go_quiet (fail)
        go_wp2
        go_ret
        refine ⟨?_, n + nq, by simp [go_sem]⟩
        rw [show rb l = false from rb_false.2 fun h => by have := (h.1 x (List.mem_of_getElem? HX.out)).1; omega]; rfl
      have p1' : decide (x < 0) = false := by simp [p1]
      by_cases p2 : 28 < x
      · have p2' : decide (28 < x) = true := by simp [p2]
        clear hc
        go_wp2_with fail
        go_quiet (fail)
        go_wp2
        go_ret
        refine ⟨?_, n + nq, by simp [go_sem]⟩
        rw [show rb l = false from rb_false.2 fun h => by have := (h.1 x (List.mem_of_getElem? HX.out)).2; omega]; rfl
      have p2' : decide (28 < x) = false := by simp [p2]
      replace HB := hid (HB.out (by omega) (by omega))
      by_cases p3 : 0 < j
      · have p3' : decide (0 < j) = true := by simp; omega
        obtain ⟨k, hk⟩ : ∃ k, j = k + 1 := ⟨j - 1, by omega⟩
        have hji : (j : Int) - 1 = (k : Int) := by omega
        have hwi : IntKind.i64.wrap (k : Int) = k := IntWalk.i64_in _ (by omega)
        have hkl : k < l.length := by omega
        have hy : l[k]? = some l[k] := List.getElem?_eq_getElem hkl
        generalize l[k] = y at hy
        have c2 : w.cell? ⟨b, off + k, none⟩ = some (.int .i64 y) := hc _ _ hy
        have hkl' : (k : Int) < (l.length : Int) := by omega
        have HY := hid hy
        have HK := hid hk
        have P1 := hid p1
        have P2 := hid p2
        clear hy hc hk p1 p2 p3
        by_cases q1 : x < y
        · have q1' : decide (x < y) = true := by simp [q1]
          go_wp2_with fail
          go_quiet (fail)
          go_wp2
          go_ret
          refine ⟨?_, n + nq, by simp [go_sem]⟩
          have hx := HX.out; rw [HK.out] at hx
          rw [show rb l = false from rb_false.2 fun h => by have := (((R_iff l).1 h).2 k y x HY.out hx).1; omega]; rfl
        · have q1' : decide (x < y) = false := by simp [q1]
          by_cases q2 : x = y
          · have q2' : (x == y) = true := by simp [q2]
            by_cases q3 : 1 < j
            · have q3' : decide (1 < (j : Int)) = true := by simp; omega
              clear q2
              go_wp2_with fail
              go_quiet (fail)
              go_wp2
              go_ret
              refine ⟨?_, n + nq, by simp [go_sem]⟩
              have hx := HX.out; rw [HK.out] at hx
              rw [show rb l = false from rb_false.2 fun h => by have := (((R_iff l).1 h).2 k y x HY.out hx).2 (by have := HK.out; omega); simp at q2'; omega]; rfl
            · have q3' : decide (1 < (j : Int)) = false := by simp; omega
              clear q2
              go_wp2_with fail
              go_quiet (fail)
              go_wp2
              go_roundw
              case rel =>
                refine ⟨j + 1, n + nq, by go_num, by omega, by simp [go_sem], HB, hid fun i hi => ?_⟩
                by_cases c : i + 1 < j
                · exact hadj.out i c
                · have hx := HX.out; rw [HK.out] at hx
                  have hik : i = k := by have := HK.out; omega
                  subst hik
                  intro y' x' hy' hx'
                  rw [HY.out] at hy'; rw [hx] at hx'
                  injection hy' with e1; injection hx' with e2
                  subst e1; subst e2
                  simp at q2'
                  have := HK.out
                  exact ⟨by omega, fun _ => by omega⟩
              case measure => simp [intOf]; omega
          · have q2' : (x == y) = false := by simp [q2]
            clear q2
            go_wp2_with fail
            go_quiet (fail)
            go_wp2
            go_roundw
            case rel =>
              refine ⟨j + 1, n + nq, by go_num, by omega, by simp [go_sem], HB, hid fun i hi => ?_⟩
              by_cases c : i + 1 < j
              · exact hadj.out i c
              · have hx := HX.out; rw [HK.out] at hx
                have hik : i = k := by have := HK.out; omega
                subst hik
                intro y' x' hy' hx'
                rw [HY.out] at hy'; rw [hx] at hx'
                injection hy' with e1; injection hx' with e2
                subst e1; subst e2
                simp at q2'
                exact ⟨by omega, fun _ => by omega⟩
            case measure => simp [intOf]; omega
      · have p3' : decide (0 < j) = false := by simp; omega
        have P3 := hid p3
        clear hc p1 p2
        go_wp2_with fail
        go_quiet (fail)
        go_wp2
        go_roundw
        case rel => exact ⟨j + 1, n + nq, by go_num, by omega, by simp [go_sem], HB, hid fun i hi => by have := P3.out; omega⟩
        case measure => simp [intOf]; omega
    · have HR : Hid (R l) := hid ((R_iff l).2 ⟨fun x hx => by
          obtain ⟨i, hi, rfl⟩ := List.getElem_of_mem hx
          exact hbd.out i _ (by omega) (List.getElem?_eq_getElem hi), fun i x y hx hy => hadj.out i (by have := (List.getElem?_eq_some_iff.1 hy).1; omega) x y hx hy⟩)
      clear hbd hadj H4
      go_wp2
      go_ret
      exact ⟨by rw [show rb l = true from rb_true.2 HR.out]; rfl, n, rfl⟩
end Go.Proofs.Ytmfnbgljioecpaa
