/- The walk of the laws' own comparing of single answers with the document's: Before, Compare, Bits, Add, Limit: it answers true. -/
import Derived.Test.YtjjahhiaelaocaaOo1
namespace Go.Proofs.Ytjjahhiaelaocaa
open Go.ChangeShapes Go.WideShapes Go.ChangeAt Go.RowKit

/-- two entries, boxed one behind the other from block B on -/
structure Two (W : World) (B : Nat) (x y : Int × Int) : Prop where
  x1 : W.cell? ⟨B, 0, none⟩ = some (.int .i64 x.1)
  x2 : W.cell? ⟨B, 1, none⟩ = some (.int .i64 x.2)
  y1 : W.cell? ⟨B + 1, 0, none⟩ = some (.int .i64 y.1)
  y2 : W.cell? ⟨B + 1, 1, none⟩ = some (.int .i64 y.2)

theorem Two.below {W W' : World} {B : Nat} {x y : Int × Int} (h : Two W B x y) (hz : B + 2 ≤ W.heap.size) (k : Below W.heap.size W W') : Two W' B x y :=
  ⟨(k.cell (p := ⟨B, 0, none⟩) (by simp; omega)).trans h.x1, (k.cell (p := ⟨B, 1, none⟩) (by simp; omega)).trans h.x2, (k.cell (p := ⟨B + 1, 0, none⟩) (by simp; omega)).trans h.y1, (k.cell (p := ⟨B + 1, 1, none⟩) (by simp; omega)).trans h.y2⟩

/-- a call that turns nothing, beside two boxed entries -/
def Beside (f : Nat) (args : Array Value) (v : Value) (B : Nat) (x y : Int × Int) (w0 : World) : Prop :=
  ∀ W, B + 2 ≤ W.heap.size → Two W B x y → Below B w0 W → Calls Try.prog f args W fun e w' => e = .returned v ∧ B + 2 ≤ w'.heap.size ∧ Two w' B x y ∧ Below B w0 w'

theorem beside_of {f : Nat} {args : Array Value} {v : Value} {B : Nat} {x y : Int × Int} {w0 : World} (h : ∀ W, Calls Try.prog f args W fun e w' => e = .returned v ∧ Below W.heap.size W w') : Beside f args v B x y w0 := fun W hz h2 hb => by
  refine (h W).mono ?_
  rintro e w' ⟨rfl, k⟩
  exact ⟨rfl, Nat.le_trans hz k.size, h2.below hz k, hb.trans (k.mono (by omega))⟩
theorem beside_same {f : Nat} {args : Array Value} {v : Value} {B : Nat} {x y : Int × Int} {w0 : World} (h : ∀ W, Calls Try.prog f args W fun e w' => e = .returned v ∧ w' = W) : Beside f args v B x y w0 :=
  beside_of fun W => (h W).mono fun e w' ⟨he, hw⟩ => ⟨he, by subst hw; exact Below.refl _ _⟩
theorem before_below (a1 a2 b1 b2 : Int) (w : World) :
    Calls Try.prog 14 #[.agg #[.int .i64 a1, .int .i64 a2], .agg #[.int .i64 b1, .int .i64 b2]] w fun e w' => e = .returned (.bool (bef a1 a2 b1 b2)) ∧ Below w.heap.size w w' :=
  (before_any a1 a2 b1 b2 w).mono fun _ _ ⟨he, _, _, hw⟩ => ⟨he, by subst hw; exact below_a2 (Below.refl _ _) (Nat.le_refl _) _ _⟩
theorem refBefore_below (a1 a2 b1 b2 : Int) (w : World) :
    Calls Try.prog 18 #[.agg #[.int .i64 a1, .int .i64 a2], .agg #[.int .i64 b1, .int .i64 b2]] w fun e w' => e = .returned (.bool (bef a1 a2 b1 b2)) ∧ Below w.heap.size w w' :=
  (refBefore_any a1 a2 b1 b2 w).mono fun _ _ ⟨he, _, _, hw⟩ => ⟨he, by subst hw; exact below_a2 (Below.refl _ _) (Nat.le_refl _) _ _⟩

set_option maxRecDepth 100000 in
set_option maxHeartbeats 8000000 in
theorem samev_any (x y : Int × Int) (n a b : Int) (hn : I64 n) (ha : I64 a) (hb : I64 b) (w : World) :
    Calls Try.prog 7 #[.agg #[.int .i64 x.1, .int .i64 x.2], .agg #[.int .i64 y.1, .int .i64 y.2], .int .i64 n, .int .i64 a, .int .i64 b] w fun e w' => e = .returned (.bool true) ∧ Below w.heap.size w w' := by
  have g14 : Beside 14 #[.agg #[.int .i64 x.1, .int .i64 x.2], .agg #[.int .i64 y.1, .int .i64 y.2]] (.bool (bef x.1 x.2 y.1 y.2)) w.heap.size x y w := beside_of fun W => before_below _ _ _ _ W
  have g18 : Beside 18 #[.agg #[.int .i64 x.1, .int .i64 x.2], .agg #[.int .i64 y.1, .int .i64 y.2]] (.bool (bef x.1 x.2 y.1 y.2)) w.heap.size x y w := beside_of fun W => refBefore_below _ _ _ _ W
  have g19 : Beside 19 #[.agg #[.int .i64 x.1, .int .i64 x.2], .agg #[.int .i64 y.1, .int .i64 y.2]] (.int .i64 (cmpS x.1 x.2 y.1 y.2)) w.heap.size x y w := beside_of fun W => compare_any _ _ _ _ W
  have g20 : Beside 20 #[.agg #[.int .i64 x.1, .int .i64 x.2], .agg #[.int .i64 y.1, .int .i64 y.2]] (.int .i64 (cmpS x.1 x.2 y.1 y.2)) w.heap.size x y w := beside_of fun W => refCompare_any _ _ _ _ W
  have g21 : Beside 21 #[.int .i64 n] (.int .i64 (bitsS n)) w.heap.size x y w := beside_same fun W => bits_any n hn W
  have g22 : Beside 22 #[.int .i64 n] (.int .i64 (bitsS n)) w.heap.size x y w := beside_same fun W => refBits_any n hn W
  have g17 : Beside 17 #[.int .i64 a, .int .i64 b] (.int .i64 (addS a b)) w.heap.size x y w := beside_same fun W => add_any a b ha hb W
  have g23 : Beside 23 #[.int .i64 a, .int .i64 b] (.int .i64 (addS a b)) w.heap.size x y w := beside_same fun W => refAdd_any a b ha hb W
  have g24 : Beside 24 #[.int .i64 a, .int .i64 b, .int .i64 n] (.int .i64 (limS a b (bitsS n))) w.heap.size x y w := beside_same fun W => limit_any a b n ha hb hn W
  have g25 : Beside 25 #[.int .i64 a, .int .i64 b, .int .i64 n] (.int .i64 (limS a b (bitsS n))) w.heap.size x y w := beside_same fun W => refLimit_any a b n ha hb hn W
  generalize bef x.1 x.2 y.1 y.2 = r at g14 g18
  generalize cmpS x.1 x.2 y.1 y.2 = c at g19 g20
  generalize limS a b (bitsS n) = lm at g24 g25
  generalize ((bitsS n : Nat) : Int) = nb at g21 g22
  generalize addS a b = s at g17 g23
  have G14 := hid g14
  have G18 := hid g18
  have G19 := hid g19
  have G20 := hid g20
  have G21 := hid g21
  have G22 := hid g22
  have G17 := hid g17
  have G23 := hid g23
  have G24 := hid g24
  have G25 := hid g25
  clear g14 g18 g19 g20 g21 g22 g17 g23 g24 g25 hn ha hb
  go_enter Try.func7, Try.ntmps7
  go_wp2
  have hb : Below w.heap.size w ((w.alloc (.cells #[.int .i64 x.1, .int .i64 x.2] 26)).alloc (.cells #[.int .i64 y.1, .int .i64 y.2] 26)) := below_a2 (Below.refl _ _) (Nat.le_refl _) _ _
  have hz : w.heap.size + 2 ≤ ((w.alloc (.cells #[.int .i64 x.1, .int .i64 x.2] 26)).alloc (.cells #[.int .i64 y.1, .int .i64 y.2] 26)).heap.size := by simp
  have h2 : Two ((w.alloc (.cells #[.int .i64 x.1, .int .i64 x.2] 26)).alloc (.cells #[.int .i64 y.1, .int .i64 y.2] 26)) w.heap.size x y := by
    refine ⟨?_, ?_, ?_, ?_⟩ <;> simp [go_sem]
  generalize ((w.alloc (.cells #[.int .i64 x.1, .int .i64 x.2] 26)).alloc (.cells #[.int .i64 y.1, .int .i64 y.2] 26)) = W at hb hz h2 ⊢
  obtain ⟨k1, k2, k3, k4⟩ := h2
  have h2 := Two.mk k1 k2 k3 k4
  go_region_held3 (fun w' => w'.cell? ⟨w.heap.size, 0, none⟩ = some (.int .i64 x.1) ∧ w'.cell? ⟨w.heap.size, 1, none⟩ = some (.int .i64 x.2) ∧ w'.cell? ⟨w.heap.size + 1, 0, none⟩ = some (.int .i64 y.1) ∧ w'.cell? ⟨w.heap.size + 1, 1, none⟩ = some (.int .i64 y.2)) (exact ⟨k1, k2, k3, k4⟩)
    (first
      | (go_at_call 14; refine (G14.out _ (by exact hz) (by exact ⟨k1, k2, k3, k4⟩) (by first | exact hb | exact hb.drew)).mono ?_; rintro e w' ⟨rfl, hz, h2, hb⟩; obtain ⟨k1, k2, k3, k4⟩ := h2; have h2 := Two.mk k1 k2 k3 k4)
      | (go_at_call 18; refine (G18.out _ (by exact hz) (by exact ⟨k1, k2, k3, k4⟩) (by first | exact hb | exact hb.drew)).mono ?_; rintro e w' ⟨rfl, hz, h2, hb⟩; obtain ⟨k1, k2, k3, k4⟩ := h2; have h2 := Two.mk k1 k2 k3 k4)
      | (go_at_call 19; refine (G19.out _ (by exact hz) (by exact ⟨k1, k2, k3, k4⟩) (by first | exact hb | exact hb.drew)).mono ?_; rintro e w' ⟨rfl, hz, h2, hb⟩; obtain ⟨k1, k2, k3, k4⟩ := h2; have h2 := Two.mk k1 k2 k3 k4)
      | (go_at_call 20; refine (G20.out _ (by exact hz) (by exact ⟨k1, k2, k3, k4⟩) (by first | exact hb | exact hb.drew)).mono ?_; rintro e w' ⟨rfl, hz, h2, hb⟩; obtain ⟨k1, k2, k3, k4⟩ := h2; have h2 := Two.mk k1 k2 k3 k4)
      | (go_at_call 21; refine (G21.out _ (by exact hz) (by exact ⟨k1, k2, k3, k4⟩) (by first | exact hb | exact hb.drew)).mono ?_; rintro e w' ⟨rfl, hz, h2, hb⟩; obtain ⟨k1, k2, k3, k4⟩ := h2; have h2 := Two.mk k1 k2 k3 k4)
      | (go_at_call 22; refine (G22.out _ (by exact hz) (by exact ⟨k1, k2, k3, k4⟩) (by first | exact hb | exact hb.drew)).mono ?_; rintro e w' ⟨rfl, hz, h2, hb⟩; obtain ⟨k1, k2, k3, k4⟩ := h2; have h2 := Two.mk k1 k2 k3 k4)
      | (go_at_call 17; refine (G17.out _ (by exact hz) (by exact ⟨k1, k2, k3, k4⟩) (by first | exact hb | exact hb.drew)).mono ?_; rintro e w' ⟨rfl, hz, h2, hb⟩; obtain ⟨k1, k2, k3, k4⟩ := h2; have h2 := Two.mk k1 k2 k3 k4)
      | (go_at_call 23; refine (G23.out _ (by exact hz) (by exact ⟨k1, k2, k3, k4⟩) (by first | exact hb | exact hb.drew)).mono ?_; rintro e w' ⟨rfl, hz, h2, hb⟩; obtain ⟨k1, k2, k3, k4⟩ := h2; have h2 := Two.mk k1 k2 k3 k4)
      | (go_at_call 24; refine (G24.out _ (by exact hz) (by exact ⟨k1, k2, k3, k4⟩) (by first | exact hb | exact hb.drew)).mono ?_; rintro e w' ⟨rfl, hz, h2, hb⟩; obtain ⟨k1, k2, k3, k4⟩ := h2; have h2 := Two.mk k1 k2 k3 k4)
      | (go_at_call 25; refine (G25.out _ (by exact hz) (by exact ⟨k1, k2, k3, k4⟩) (by first | exact hb | exact hb.drew)).mono ?_; rintro e w' ⟨rfl, hz, h2, hb⟩; obtain ⟨k1, k2, k3, k4⟩ := h2; have h2 := Two.mk k1 k2 k3 k4))
  have BL := hid hb
  clear k1 k2 k3 k4 h2 hz hb
  go_wp2
  go_ret
  exact ⟨rfl, BL.out⟩
end Go.Proofs.Ytjjahhiaelaocaa
