/- The walks of Regular and of the reference's. -/
import Derived.Test.YtlckfnnjplclmaaDg
import Derived.Test.YtlckfnnjplclmaaLst
namespace Go.Proofs.Ytlckfnnjplclmaa
open Go.ChangeShapes Go.WideShapes Go.ChangeAt Go.RowKit

theorem lk_at : ∀ (d : Int) (l : List Int) (k : Nat) (x : Int), l.length = k + 1 → l[k]? = some x → lk d l = (x != 0)
  | d, [], k, x, h, _ => by simp at h
  | d, [y], k, x, h, hx => by
    have : k = 0 := by simpa using h.symm
    subst this
    simp at hx; subst hx; rfl
  | d, y :: z :: s, k, x, h, hx => by
    cases k with
    | zero => simp at h
    | succ k =>
      show lk y (z :: s) = _
      exact lk_at y (z :: s) k x (by simpa using h) (by simpa using hx)
theorem rgB_long {l : List Int} (h : 40 < l.length) : rgB l = false := by
  unfold rgB; rw [decide_eq_false (by omega)]; rfl
theorem rgB_zero {l : List Int} {k : Nat} (h : l.length = k + 1) (hx : l[k]? = some 0) : rgB l = false := by
  unfold rgB; rw [lk_at 1 l k 0 h hx]; simp
theorem rgB_rest {l : List Int} {k : Nat} {x : Int} (h : l.length ≤ 40) (hk : l.length = k + 1) (hx : l[k]? = some x) (h0 : x ≠ 0) : rgB l = rg true l := by
  unfold rgB; rw [lk_at 1 l k x hk hx, decide_eq_true h]; simp [h0]
theorem drop_at {l : List Int} {i : Nat} {x : Int} (h : l[i]? = some x) : l.drop i = x :: l.drop (i + 1) := by
  obtain ⟨hi, rfl⟩ := List.getElem?_eq_some_iff.1 h
  exact List.drop_eq_getElem_cons hi

set_option maxHeartbeats 2000000 in
theorem reg_any (v : Value) (l : List Int) (w : World) (h : Lst w v l) (hl : l.length ≤ 1000) :
    Calls Try.prog 17 #[v] w fun e w' => e = .returned (.bool (rgB l)) ∧ w' = w := by
  obtain ⟨a, c, rfl, h1, h2, h3, h4⟩ := h
  have H4 := hid h4
  clear h4 h3 h2
  by_cases h40 : 40 < l.length
  · have q : decide (40 < (l.length : Int)) = true := by simp; omega
    have HE := hid (rgB_long h40)
    clear H4
    go_enter Try.func17, Try.ntmps17
    go_wp2
    go_ret
    exact ⟨by rw [HE.out]; rfl, rfl⟩
  · have q : decide (40 < (l.length : Int)) = false := by simp; omega
    by_cases h0 : l = []
    · subst h0
      simp only [List.length_nil] at *
      clear H4
      go_enter Try.func17, Try.ntmps17
      go_wp2
      go_loopw [4, 25] (fun rv iv wr => rv = .bool true ∧ iv = .int .i64 (0 : Int) ∧ w = wr) (fun _ _ _ => 0)
      case atStart => exact ⟨rfl, rfl, rfl⟩
      case round =>
        obtain ⟨rfl, rfl, rfl⟩ := hrel
        go_wp2
        go_ret
        exact ⟨rfl, rfl⟩
    · obtain ⟨k, hk⟩ : ∃ k, l.length = k + 1 := ⟨l.length - 1, by have := List.length_pos_iff.2 h0; omega⟩
      have hx : l[k]? = some l[k] := List.getElem?_eq_getElem (by omega)
      generalize l[k] = x at hx
      rcases H4.out with e | ⟨b, off, rfl, hb, hc⟩
      · exact absurd e h0
      have c1 : w.cell? ⟨b, off + k, none⟩ = some (.int .i64 x) := hc _ _ hx
      have hki : ((k : Int) + 1) - 1 = k := by omega
      by_cases x0 : x = 0
      · have HE := hid (rgB_zero hk (x0 ▸ hx))
        have x0' : (x == 0) = true := by simp [x0]
        have HK := hid hk
        rw [hk] at q h1 hl ⊢
        clear hx hc H4 h0 hk x0 h40
        have hp : 0 < (k : Int) + 1 := by omega
        have qk : decide (40 < (k : Int) + 1) = false := by simp at q ⊢; omega
        clear q
        go_enter Try.func17, Try.ntmps17
        go_wp2
        go_ret
        exact ⟨by rw [HE.out]; rfl, rfl⟩
      · have HE := hid (rgB_rest (by omega) hk hx x0)
        have x0' : (x == 0) = false := by simp [x0]
        have HK := hid hk
        have HC := hid hc
        have h40' := hid h40
        rw [hk] at q h1 hl ⊢
        clear hx hc H4 h0 hk x0 h40
        have hp : 0 < (k : Int) + 1 := by omega
        have qk : decide (40 < (k : Int) + 1) = false := by simp at q ⊢; omega
        clear q
        go_enter Try.func17, Try.ntmps17
        go_wp2
        go_loopw [4, 25] (fun rv iv wr => ∃ (r : Bool) (i : Nat), rv = .bool r ∧ iv = .int .i64 (i : Int) ∧ i ≤ k + 1 ∧ Hid (rg true l = rg r (l.drop i)) ∧ w = wr) (fun _ iv _ => k + 1 - (intOf iv).toNat)
        case atStart => exact ⟨true, 0, rfl, rfl, Nat.zero_le _, hid rfl, rfl⟩
        case round =>
          obtain ⟨r, i, rfl, rfl, hi, HR, rfl⟩ := hrel
          by_cases hlt : i < k + 1
          · have hlt' : (i : Int) < (k : Int) + 1 := by omega
            obtain ⟨y, hy⟩ : ∃ y, l[i]? = some y := ⟨_, List.getElem?_eq_getElem (by have := HK.out; omega)⟩
            have c2 : w.cell? ⟨b, off + i, none⟩ = some (.int .i64 y) := HC.out _ _ hy
            have HD := hid (drop_at hy)
            clear hy
            by_cases y0 : y = 0
            · have y0' : (y == 0) = true := by simp [y0]
              have HN : Hid (rg true l = rg true (l.drop (i + 1))) := hid (by rw [HR.out, HD.out]; simp only [rg]; rw [if_pos y0])
              clear y0
              go_wp2
              go_roundw
              case rel => exact ⟨true, i + 1, rfl, by go_num, by omega, HN, trivial⟩
              case measure => simp [intOf]; omega
            · have y0' : (y == 0) = false := by simp [y0]
              by_cases y2 : y = 2
              · have y2' : (y == 2) = true := by simp [y2]
                cases r with
                | true =>
                  have HN : Hid (rg true l = rg false (l.drop (i + 1))) := hid (by rw [HR.out, HD.out]; simp only [rg]; rw [if_neg y0, if_pos ⟨y2, trivial⟩])
                  clear y0 y2
                  go_wp2
                  go_roundw
                  case rel => exact ⟨false, i + 1, rfl, by go_num, by omega, HN, trivial⟩
                  case measure => simp [intOf]; omega
                | false =>
                  have HN : Hid (rg true l = false) := hid (by rw [HR.out, HD.out]; simp only [rg]; rw [if_neg y0, if_neg (by simp), if_neg (by omega)])
                  have y1' : (y != 1) = true := by simp; omega
                  clear y0 y2
                  go_wp2
                  go_ret
                  exact ⟨by rw [HE.out, HN.out]; rfl, rfl⟩
              · have y2' : (y == 2) = false := by simp [y2]
                by_cases y1 : y = 1
                · have y1' : (y != 1) = false := by simp [y1]
                  have HN : Hid (rg true l = rg r (l.drop (i + 1))) := hid (by rw [HR.out, HD.out]; simp only [rg]; rw [if_neg y0, if_neg (fun e => y2 e.1), if_pos y1])
                  clear y0 y2 y1
                  go_wp2
                  go_roundw
                  case rel => exact ⟨r, i + 1, rfl, by go_num, by omega, HN, trivial⟩
                  case measure => simp [intOf]; omega
                · have y1' : (y != 1) = true := by simp [y1]
                  have HN : Hid (rg true l = false) := hid (by rw [HR.out, HD.out]; simp only [rg]; rw [if_neg y0, if_neg (fun e => y2 e.1), if_neg y1])
                  clear y0 y2 y1
                  go_wp2
                  go_ret
                  exact ⟨by rw [HE.out, HN.out]; rfl, rfl⟩
          · have hlt' : ¬ (i : Int) < (k : Int) + 1 := by omega
            have HN : Hid (rg true l = true) := hid (by rw [HR.out, List.drop_eq_nil_of_le (by have := HK.out; omega)]; rfl)
            go_wp2
            go_ret
            exact ⟨by rw [HE.out, HN.out]; rfl, rfl⟩

set_option maxHeartbeats 2000000 in
theorem refReg_any (v : Value) (l : List Int) (w : World) (h : Lst w v l) (hl : l.length ≤ 1000) :
    Calls Try.prog 13 #[v] w fun e w' => e = .returned (.bool (rgB l)) ∧ w' = w := by
  obtain ⟨a, c, rfl, h1, h2, h3, h4⟩ := h
  have H4 := hid h4
  clear h4 h3 h2
  by_cases h40 : 40 < l.length
  · have q : decide (40 < (l.length : Int)) = true := by simp; omega
    have HE := hid (rgB_long h40)
    clear H4
    go_enter Try.func13, Try.ntmps13
    go_wp2
    go_ret
    exact ⟨by rw [HE.out]; rfl, rfl⟩
  · have q : decide (40 < (l.length : Int)) = false := by simp; omega
    by_cases h0 : l = []
    · subst h0
      simp only [List.length_nil] at *
      clear H4
      go_enter Try.func13, Try.ntmps13
      go_wp2
      go_loopw [3, 4] (fun rv iv wr => rv = .bool true ∧ iv = .int .i64 (0 : Int) ∧ w = wr) (fun _ _ _ => 0)
      case atStart => exact ⟨rfl, rfl, rfl⟩
      case round =>
        obtain ⟨rfl, rfl, rfl⟩ := hrel
        go_wp2
        go_ret
        exact ⟨rfl, rfl⟩
    · obtain ⟨k, hk⟩ : ∃ k, l.length = k + 1 := ⟨l.length - 1, by have := List.length_pos_iff.2 h0; omega⟩
      have hx : l[k]? = some l[k] := List.getElem?_eq_getElem (by omega)
      generalize l[k] = x at hx
      rcases H4.out with e | ⟨b, off, rfl, hb, hc⟩
      · exact absurd e h0
      have c1 : w.cell? ⟨b, off + k, none⟩ = some (.int .i64 x) := hc _ _ hx
      have hki : ((k : Int) + 1) - 1 = k := by omega
      by_cases x0 : x = 0
      · have HE := hid (rgB_zero hk (x0 ▸ hx))
        have x0' : (x == 0) = true := by simp [x0]
        have HK := hid hk
        rw [hk] at q h1 hl ⊢
        clear hx hc H4 h0 hk x0 h40
        have hp : 0 < (k : Int) + 1 := by omega
        have qk : decide (40 < (k : Int) + 1) = false := by simp at q ⊢; omega
        clear q
        go_enter Try.func13, Try.ntmps13
        go_wp2
        go_ret
        exact ⟨by rw [HE.out]; rfl, rfl⟩
      · have HE := hid (rgB_rest (by omega) hk hx x0)
        have x0' : (x == 0) = false := by simp [x0]
        have HK := hid hk
        have HC := hid hc
        have h40' := hid h40
        rw [hk] at q h1 hl ⊢
        clear hx hc H4 h0 hk x0 h40
        have hp : 0 < (k : Int) + 1 := by omega
        have qk : decide (40 < (k : Int) + 1) = false := by simp at q ⊢; omega
        clear q
        go_enter Try.func13, Try.ntmps13
        go_wp2
        go_loopw [3, 4] (fun rv iv wr => ∃ (r : Bool) (i : Nat), rv = .bool r ∧ iv = .int .i64 (i : Int) ∧ i ≤ k + 1 ∧ Hid (rg true l = rg r (l.drop i)) ∧ w = wr) (fun _ iv _ => k + 1 - (intOf iv).toNat)
        case atStart => exact ⟨true, 0, rfl, rfl, Nat.zero_le _, hid rfl, rfl⟩
        case round =>
          obtain ⟨r, i, rfl, rfl, hi, HR, rfl⟩ := hrel
          by_cases hlt : i < k + 1
          · have hlt' : (i : Int) < (k : Int) + 1 := by omega
            obtain ⟨y, hy⟩ : ∃ y, l[i]? = some y := ⟨_, List.getElem?_eq_getElem (by have := HK.out; omega)⟩
            have c2 : w.cell? ⟨b, off + i, none⟩ = some (.int .i64 y) := HC.out _ _ hy
            have HD := hid (drop_at hy)
            clear hy
            by_cases yn : y < 0
            · have yn' : decide (y < 0) = true := by simp [yn]
              have HN : Hid (rg true l = false) := hid (by rw [HR.out, HD.out]; simp only [rg]; rw [if_neg (by omega), if_neg (fun e => by omega), if_neg (by omega)])
              clear yn
              go_wp2
              go_ret
              exact ⟨by rw [HE.out, HN.out]; rfl, rfl⟩
            have yn' : decide (y < 0) = false := by simp; omega
            by_cases yg : 2 < y
            · have yg' : decide (2 < y) = true := by simp [yg]
              have HN : Hid (rg true l = false) := hid (by rw [HR.out, HD.out]; simp only [rg]; rw [if_neg (by omega), if_neg (fun e => by omega), if_neg (by omega)])
              clear yg yn
              go_wp2
              go_ret
              exact ⟨by rw [HE.out, HN.out]; rfl, rfl⟩
            have yg' : decide (2 < y) = false := by simp; omega
            by_cases y0 : y = 0
            · have y0' : (y == 0) = true := by simp [y0]
              have HN : Hid (rg true l = rg true (l.drop (i + 1))) := hid (by rw [HR.out, HD.out]; simp only [rg]; rw [if_pos y0])
              clear y0 yn yg
              go_wp2
              go_roundw
              case rel => exact ⟨true, i + 1, rfl, by go_num, by omega, HN, trivial⟩
              case measure => simp [intOf]; omega
            · have y0' : (y == 0) = false := by simp [y0]
              by_cases y2 : y = 2
              · have y2' : (y == 2) = true := by simp [y2]
                cases r with
                | true =>
                  have HN : Hid (rg true l = rg false (l.drop (i + 1))) := hid (by rw [HR.out, HD.out]; simp only [rg]; rw [if_neg y0, if_pos ⟨y2, trivial⟩])
                  clear y0 y2 yn yg
                  go_wp2
                  go_roundw
                  case rel => exact ⟨false, i + 1, rfl, by go_num, by omega, HN, trivial⟩
                  case measure => simp [intOf]; omega
                | false =>
                  have HN : Hid (rg true l = false) := hid (by rw [HR.out, HD.out]; simp only [rg]; rw [if_neg y0, if_neg (by simp), if_neg (by omega)])
                  clear y0 y2 yn yg
                  go_wp2
                  go_ret
                  exact ⟨by rw [HE.out, HN.out]; rfl, rfl⟩
              · have y2' : (y == 2) = false := by simp [y2]
                have HN : Hid (rg true l = rg r (l.drop (i + 1))) := hid (by rw [HR.out, HD.out]; simp only [rg]; rw [if_neg y0, if_neg (fun e => y2 e.1), if_pos (by omega)])
                clear y0 y2 yn yg
                go_wp2
                go_roundw
                case rel => exact ⟨r, i + 1, rfl, by go_num, by omega, HN, trivial⟩
                case measure => simp [intOf]; omega
          · have hlt' : ¬ (i : Int) < (k : Int) + 1 := by omega
            have HN : Hid (rg true l = true) := hid (by rw [HR.out, List.drop_eq_nil_of_le (by have := HK.out; omega)]; rfl)
            go_wp2
            go_ret
            exact ⟨by rw [HE.out, HN.out]; rfl, rfl⟩
end Go.Proofs.Ytlckfnnjplclmaa
