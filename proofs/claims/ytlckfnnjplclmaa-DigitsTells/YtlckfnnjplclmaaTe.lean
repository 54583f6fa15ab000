/- The walk of DigitsTells. -/
import Derived.Test.YtlckfnnjplclmaaKn
namespace Go.Proofs.Ytlckfnnjplclmaa
open Go.ChangeShapes Go.WideShapes Go.ChangeAt Go.RowKit

set_option maxHeartbeats 4000000 in
theorem tells_walk (a : Option Addr) (c : Nat) (l : List Int) (v : Value) (m : List Int) (w : World) (h : Lst w (.slice a l.length c) l) (hm : Lst w v m) (hI : ∀ x ∈ m, I64 x) :
    Calls Try.prog 4 #[.slice a l.length c, v] w fun e w' => e = .returned (.bool true) ∧ Below w.heap.size w w' := by
  have HL0 := hid h
  have HI := hid hI
  obtain ⟨ma, mc, rfl, m1, m2, m3, m4⟩ := hm
  have HM4 := hid m4
  clear m3 m4 hI
  have hml : m.length ≤ maxLen := by omega
  obtain ⟨a', c', e, h1, h2, h3, h4⟩ := h
  obtain ⟨rfl, rfl⟩ : a = a' ∧ c = c' := by cases e; exact ⟨rfl, rfl⟩
  clear e m1 m2
  unfold maxLen at hml h2
  by_cases h50 : 50 < l.length
  · have HL := hid (show Lst w (.slice a 50 c) (l.take 50) from by
      have e50 : (l.take 50).length = 50 := by rw [List.length_take]; omega
      refine ⟨a, c, by rw [e50], by omega, by unfold maxLen; omega, h3, ?_⟩
      rcases h4 with h4 | ⟨b, off, e, hb, hc⟩
      · subst h4; simp at h50
      · exact Or.inr ⟨b, off, e, hb, fun i x hx => hc i x (by rw [List.getElem?_take] at hx; split at hx <;> simp_all)⟩)
    have LN := hid (show (l.take 50).length ≤ 50 by rw [List.length_take]; omega)
    generalize hq : l.take 50 = q at HL LN
    have n50 : (50 : Int) < (l.length : Int) := by omega
    have n51 : (50 : Int) ≤ (c : Int) := by omega
    clear h4 h3 hq HL0
    go_enter Try.func4, Try.ntmps4
    go_wp2
    go_loopw [5, 6] (fun nv iv wr => ∃ (i : Nat) (L : List Int), iv = .int .i64 (i : Int) ∧ i ≤ m.length ∧ i ≤ 45 ∧ Hid (L.length = i) ∧ Hid (Own wr w.heap.size nv L) ∧ Hid (Below w.heap.size w wr)) (fun _ iv _ => m.length - (intOf iv).toNat)
    case atStart => exact ⟨0, [], rfl, Nat.zero_le _, by omega, hid rfl, hid (Own.nil _ _), hid (Below.refl _ _)⟩
    case round =>
      obtain ⟨i, L, rfl, hi, hi45, hL, HO, HB⟩ := hrel
      have LEAVE : Hid (∀ (w9 : World), Below w.heap.size w w9 → Lst w9 (.slice a 50 c) q) := hid (fun w9 b => HL.out.below b)
      by_cases hlt : i < m.length
      · have hlt' : (i : Int) < (m.length : Int) := by omega
        by_cases h45 : i < 45
        · have h45' : decide ((i : Int) < 45) = true := by simp; omega
          obtain ⟨y, hy⟩ : ∃ y, m[i]? = some y := ⟨_, List.getElem?_eq_getElem hlt⟩
          have hy64 := hid (HI.out y (List.mem_of_getElem? hy))
          rcases HM4.out with e | ⟨b, off, rfl, hb, hc⟩
          · subst e; simp at hlt
          have c1 : wr.cell? ⟨b, off + i, none⟩ = some (.int .i64 y) := (HB.out.cell (p := ⟨b, off + i, none⟩) hb).trans (hc _ _ hy)
          have hbr : b < wr.heap.size := Nat.lt_of_lt_of_le hb HB.out.size
          obtain ⟨na, nc, rfl⟩ := own_form HO.out
          have hL45 : L.length ≤ 45 := by have := hL.out; omega
          clear hc hy
          go_wp2_with fail
          refine (within0 y hy64.out 2 (by omega) wr).mono ?_
          rintro e w1 ⟨r, rfl, hr2, rfl⟩
          go_wp2_with (at_builtin; refine wpList_append_lst rfl (.tmp 22) (.tmp 28) rfl w.heap.size (.slice na L.length nc) _ L.length (row int1 L) [(r : Int)] rfl rfl (World.ownsRow.alloc HO.out _) (lit_lst (w := w1) [(r : Int)] (by simp) #[.int .i64 (r : Int)] rfl) (by simp; omega) (by have := HB.out.size; simp; omega) ?_; intro v2 w2 o2 g2; have B2 := hid (below_grown (w0 := w) (World.ownsRow.alloc HO.out _) g2 (alloc_below HB.out _)); have O2 : Hid (Own w2 w.heap.size v2 (L ++ [(r : Int)])) := hid (by unfold Own; rw [row_append, List.length_append]; exact o2); clear o2 g2)
          go_roundw
          case rel => exact ⟨i + 1, L ++ [(r : Int)], by go_num, by omega, by omega, hid (by rw [List.length_append, hL.out]; rfl), O2, B2⟩
          case measure => simp [intOf]; omega
        · have h45' : decide ((i : Int) < 45) = false := by simp; omega
          clear HM4
          go_wp2_with fail
          refine (tells_any _ q wr (LEAVE.out wr HB.out) (by have := LN.out; omega)).mono ?_
          rintro e w3 ⟨rfl, rfl⟩
          go_wp2_with fail
          refine (tells_any _ L w3 HO.out.lst (by have := hL.out; omega)).mono ?_
          rintro e w4 ⟨rfl, rfl⟩
          go_wp2_with fail
          refine (known_any w4).mono ?_
          rintro e w5 ⟨rfl, b5⟩
          have B5 := hid (trans_below HB.out b5)
          clear b5
          go_wp2
          go_ret
          exact ⟨rfl, B5.out⟩
      · have hlt' : decide ((i : Int) < (m.length : Int)) = false := by simp; omega
        clear HM4
        go_wp2_with fail
        refine (tells_any _ q wr (LEAVE.out wr HB.out) (by have := LN.out; omega)).mono ?_
        rintro e w3 ⟨rfl, rfl⟩
        go_wp2_with fail
        refine (tells_any _ L w3 HO.out.lst (by have := hL.out; omega)).mono ?_
        rintro e w4 ⟨rfl, rfl⟩
        go_wp2_with fail
        refine (known_any w4).mono ?_
        rintro e w5 ⟨rfl, b5⟩
        have B5 := hid (trans_below HB.out b5)
        clear b5
        go_wp2
        go_ret
        exact ⟨rfl, B5.out⟩
  · have n50 : decide (50 < (l.length : Int)) = false := by simp; omega
    have HL := HL0
    clear h4 h3 HL0
    go_enter Try.func4, Try.ntmps4
    go_wp2
    go_loopw [5, 6] (fun nv iv wr => ∃ (i : Nat) (L : List Int), iv = .int .i64 (i : Int) ∧ i ≤ m.length ∧ i ≤ 45 ∧ Hid (L.length = i) ∧ Hid (Own wr w.heap.size nv L) ∧ Hid (Below w.heap.size w wr)) (fun _ iv _ => m.length - (intOf iv).toNat)
    case atStart => exact ⟨0, [], rfl, Nat.zero_le _, by omega, hid rfl, hid (Own.nil _ _), hid (Below.refl _ _)⟩
    case round =>
      obtain ⟨i, L, rfl, hi, hi45, hL, HO, HB⟩ := hrel
      have LEAVE : Hid (∀ (w9 : World), Below w.heap.size w w9 → Lst w9 (.slice a l.length c) l) := hid (fun w9 b => HL.out.below b)
      by_cases hlt : i < m.length
      · have hlt' : (i : Int) < (m.length : Int) := by omega
        by_cases h45 : i < 45
        · have h45' : decide ((i : Int) < 45) = true := by simp; omega
          obtain ⟨y, hy⟩ : ∃ y, m[i]? = some y := ⟨_, List.getElem?_eq_getElem hlt⟩
          have hy64 := hid (HI.out y (List.mem_of_getElem? hy))
          rcases HM4.out with e | ⟨b, off, rfl, hb, hc⟩
          · subst e; simp at hlt
          have c1 : wr.cell? ⟨b, off + i, none⟩ = some (.int .i64 y) := (HB.out.cell (p := ⟨b, off + i, none⟩) hb).trans (hc _ _ hy)
          have hbr : b < wr.heap.size := Nat.lt_of_lt_of_le hb HB.out.size
          obtain ⟨na, nc, rfl⟩ := own_form HO.out
          have hL45 : L.length ≤ 45 := by have := hL.out; omega
          clear hc hy
          go_wp2_with fail
          refine (within0 y hy64.out 2 (by omega) wr).mono ?_
          rintro e w1 ⟨r, rfl, hr2, rfl⟩
          go_wp2_with (at_builtin; refine wpList_append_lst rfl (.tmp 22) (.tmp 28) rfl w.heap.size (.slice na L.length nc) _ L.length (row int1 L) [(r : Int)] rfl rfl (World.ownsRow.alloc HO.out _) (lit_lst (w := w1) [(r : Int)] (by simp) #[.int .i64 (r : Int)] rfl) (by simp; omega) (by have := HB.out.size; simp; omega) ?_; intro v2 w2 o2 g2; have B2 := hid (below_grown (w0 := w) (World.ownsRow.alloc HO.out _) g2 (alloc_below HB.out _)); have O2 : Hid (Own w2 w.heap.size v2 (L ++ [(r : Int)])) := hid (by unfold Own; rw [row_append, List.length_append]; exact o2); clear o2 g2)
          go_roundw
          case rel => exact ⟨i + 1, L ++ [(r : Int)], by go_num, by omega, by omega, hid (by rw [List.length_append, hL.out]; rfl), O2, B2⟩
          case measure => simp [intOf]; omega
        · have h45' : decide ((i : Int) < 45) = false := by simp; omega
          clear HM4
          go_wp2_with fail
          refine (tells_any _ l wr (LEAVE.out wr HB.out) (by omega)).mono ?_
          rintro e w3 ⟨rfl, rfl⟩
          go_wp2_with fail
          refine (tells_any _ L w3 HO.out.lst (by have := hL.out; omega)).mono ?_
          rintro e w4 ⟨rfl, rfl⟩
          go_wp2_with fail
          refine (known_any w4).mono ?_
          rintro e w5 ⟨rfl, b5⟩
          have B5 := hid (trans_below HB.out b5)
          clear b5
          go_wp2
          go_ret
          exact ⟨rfl, B5.out⟩
      · have hlt' : decide ((i : Int) < (m.length : Int)) = false := by simp; omega
        clear HM4
        go_wp2_with fail
        refine (tells_any _ l wr (LEAVE.out wr HB.out) (by omega)).mono ?_
        rintro e w3 ⟨rfl, rfl⟩
        go_wp2_with fail
        refine (tells_any _ L w3 HO.out.lst (by have := hL.out; omega)).mono ?_
        rintro e w4 ⟨rfl, rfl⟩
        go_wp2_with fail
        refine (known_any w4).mono ?_
        rintro e w5 ⟨rfl, b5⟩
        have B5 := hid (trans_below HB.out b5)
        clear b5
        go_wp2
        go_ret
        exact ⟨rfl, B5.out⟩
end Go.Proofs.Ytlckfnnjplclmaa
