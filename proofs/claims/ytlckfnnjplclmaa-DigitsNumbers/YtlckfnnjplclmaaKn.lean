/- The walks of known and of DigitsCarries. -/
import Derived.Test.YtlckfnnjplclmaaIn
namespace Go.Proofs.Ytlckfnnjplclmaa
open Go.ChangeShapes Go.WideShapes Go.ChangeAt Go.RowKit

theorem drew_below {w w' : World} (h : ∃ n, w' = w.drewN n) : Below w.heap.size w w' := by obtain ⟨n, rfl⟩ := h; exact below_drewN (Below.refl _ _) n
theorem trans_below {a b c : World} (h : Below a.heap.size a b) (k : Below b.heap.size b c) : Below a.heap.size a c := h.trans (k.mono h.size)
theorem alloc_below {w0 w : World} (h : Below w0.heap.size w0 w) (o : Obj) : Below w0.heap.size w0 (w.alloc o) := h.alloc h.size _
theorem sameT (u v : Value) (l m : List Int) (w : World) (hu : Lst w u l) (hv : Lst w v m) (hl : l.length ≤ 1000) (e : l = m) : Calls Try.prog 9 #[u, v] w fun e w' => e = .returned (.bool true) ∧ Below w.heap.size w w' := by
  refine (same_any u v l m w hu hv hl (by rw [← e]; exact hl)).mono ?_
  rintro e' w' ⟨rfl, h⟩
  exact ⟨by rw [decide_eq_true e], drew_below h⟩
/-- a call that turns the Counter's blocks alone turns nothing below where it began -/
theorem kept_below {w0 w w' : World} {F : Nat → Prop} (h : Below w0.heap.size w0 w) (hF : ∀ b, F b → w0.heap.size ≤ b) (k : Kept F w w') : Below w0.heap.size w0 w' := h.trans (k.below h.size hF)
theorem grow_ge {w0 w w' : World} {F : Nat → Prop} (h : w0.heap.size ≤ w.heap.size) (hF : ∀ b, F b → w0.heap.size ≤ b) : ∀ b, Grow F w w' b → w0.heap.size ≤ b := fun b e => by
  rcases e with e | e
  · exact hF b e
  · omega
/-- one Inc more -/
theorem incN (p n : Nat) (F : Nat → Prop) (w : World) (h : IsC w F p (tn n) (cs n)) (hn : n ≤ 5000) :
    Calls Try.prog 8 #[.pointer (some ⟨p, 0, none⟩)] w fun e w' => e = .returned (.tuple #[.int .i64 (cq (tn n) : Int), .bool true]) ∧ IsC w' (Grow F w w') p (tn (n + 1)) (cs (n + 1)) ∧ Kept F w w' :=
  inc_any p (tn n) (cs n) F w h (by have := tn_len n (by omega); omega) (tn_ok n).1 (by have := cs_le n; omega)
theorem vb_tn {n : Nat} (h : n ≤ 8000) : vb (tn n) = n := by unfold vb; rw [if_pos (tn_rgB n h)]; exact (tn_ok n).2.2

theorem kv1 : vb [0, 1] = 2 := by decide
theorem kr1 : rgB [0, 1] = true := by decide
theorem kr2 : rgB [2, 1, 2] = false := by decide
theorem kt3 : tn 3 = [1, 1] := by decide
theorem kc3 : cs 3 = 1 := by decide

theorem lit_lst {w : World} (l : List Int) (hl : l.length ≤ 1000) (cs : Array Value) (hcs : cs = (row int1 l).toArray) : Lst (w.alloc (.cells cs 3)) (.slice (some ⟨w.heap.size, 0, none⟩) l.length l.length) l := by
  subst hcs
  exact lst_lit l hl (heap_alloc_new w _)

set_option maxHeartbeats 2000000 in
theorem known_any (w : World) : Calls Try.prog 15 #[] w fun e w' => e = .returned (.bool true) ∧ Below w.heap.size w w' := by
  go_enter Try.func15, Try.ntmps15
  go_wp2_with fail
  refine (newC w).mono ?_
  rintro e w1 ⟨p, rfl, i1, b1⟩
  have I1 := hid i1
  have B1 := hid b1
  clear i1 b1
  go_wp2
  go_loopw [2] (fun iv wr => ∃ (i : Nat) (F : Nat → Prop), iv = .int .i64 (i : Int) ∧ i ≤ 3 ∧ Hid (IsC wr F p (tn i) (cs i)) ∧ Hid (∀ b, F b → w.heap.size ≤ b) ∧ Hid (Below w.heap.size w wr)) (fun iv _ => 3 - (intOf iv).toNat)
  case atStart => exact ⟨0, _, rfl, by omega, I1, hid (fun b e => by subst e; exact Nat.le_refl _), B1⟩
  case round =>
    obtain ⟨i, F, rfl, hi, HI, HF, HB⟩ := hrel
    clear I1 B1
    by_cases hlt : i < 3
    · have hlt' : (i : Int) < 3 := by omega
      go_wp2_with fail
      refine (incN p i F wr HI.out (by omega)).mono ?_
      rintro e w2 ⟨rfl, i2, k2⟩
      have I2 := hid i2
      have B2 := hid (kept_below HB.out HF.out k2)
      have F2 := hid (grow_ge (w' := w2) HB.out.size HF.out)
      clear i2 k2 HI HB
      go_wp2
      go_roundw
      case rel => exact ⟨i + 1, _, by go_num, by omega, I2, F2, B2⟩
      case measure => simp [intOf]; omega
    · obtain rfl : i = 3 := by omega
      rw [kt3, kc3] at HI
      go_wp2_with fail
      refine (val_any _ [0, 1] _ (lit_lst (w := wr) [0, 1] (by simp) #[.int .i64 0, .int .i64 1] rfl) (by simp)).mono ?_
      rintro e w2 ⟨rfl, rfl⟩
      rw [kv1, kr1]
      obtain ⟨w2, hw2⟩ : ∃ w2, w2 = wr.alloc (.cells #[.int .i64 0, .int .i64 1] 3) := ⟨_, rfl⟩
      have I2 := hid (HI.out.below (alloc_below (Below.refl _ _) (.cells #[.int .i64 0, .int .i64 1] 3)))
      have B2 := hid (alloc_below HB.out (.cells #[.int .i64 0, .int .i64 1] 3))
      clear HI HB
      rw [← hw2] at I2 B2 ⊢
      clear hw2
      go_wp2_with fail
      refine (all_any p [1, 1] 1 F w2 I2.out (by simp)).mono ?_
      rintro e w3 ⟨v3, rfl, o3, b3⟩
      have L3 := hid (o3.lst.below (alloc_below (Below.refl _ _) (.cells #[.int .i64 1, .int .i64 1] 3)))
      have B3 := hid (alloc_below (trans_below B2.out b3) (.cells #[.int .i64 1, .int .i64 1] 3))
      have I3 := hid ((I2.out.below b3).below (alloc_below (Below.refl _ _) (.cells #[.int .i64 1, .int .i64 1] 3)))
      clear o3 b3 I2 B2
      go_wp2_with fail
      refine (sameT v3 _ [1, 1] [1, 1] _ L3.out (lit_lst (w := w3) [1, 1] (by simp) #[.int .i64 1, .int .i64 1] rfl) (by simp) rfl).mono ?_
      rintro e w4 ⟨rfl, b4⟩
      have I4 := hid (I3.out.below b4)
      have B4 := hid (trans_below B3.out b4)
      clear b4 I3 B3 L3
      have V4 := hid (value_any p [1, 1] 1 F w4 I4.out (by simp))
      have C4 := hid (carries_any p [1, 1] 1 F w4 I4.out)
      rw [show vb [1, 1] = 3 by decide] at V4
      go_wp2_with fail
      refine V4.out.mono ?_
      rintro e w5 ⟨rfl, rfl⟩
      go_wp2_with fail
      refine C4.out.mono ?_
      rintro e w6 ⟨rfl, rfl⟩
      go_wp2_with fail
      refine (reg_any _ [2, 1, 2] _ (lit_lst (w := w6) [2, 1, 2] (by simp) #[.int .i64 2, .int .i64 1, .int .i64 2] rfl) (by simp)).mono ?_
      rintro e w7 ⟨rfl, rfl⟩
      rw [kr2]
      go_wp2
      go_ret
      exact ⟨rfl, alloc_below B4.out _⟩
end Go.Proofs.Ytlckfnnjplclmaa
