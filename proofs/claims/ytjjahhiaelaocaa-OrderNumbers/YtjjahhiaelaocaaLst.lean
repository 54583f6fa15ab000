/- The walk of order.Least: it answers where the first entry stands that none is before. -/
import Derived.Test.YtjjahhiaelaocaaNum
import Derived.Deep.RegionHeld3
namespace Go.Proofs.Ytjjahhiaelaocaa
open Go.ChangeShapes Go.WideShapes Go.ChangeAt Go.RowKit

def ent (l : List (Int × Int)) (i : Nat) : Int × Int := l.getD i (0, 0)
/-- from cell off of block b on lie the entries of l -/
def Row (w : World) (b off : Nat) (l : List (Int × Int)) : Prop :=
  ∀ i, i < l.length → w.cell? ⟨b, off + i * 2, none⟩ = some (.int .i64 (ent l i).1) ∧ w.cell? ⟨b, off + i * 2 + 1, none⟩ = some (.int .i64 (ent l i).2)

theorem Row.below {B : Nat} {w w' : World} {b off : Nat} {l : List (Int × Int)} (h : Row w b off l) (hb : b < B) (k : Below B w w') : Row w' b off l := fun i hi =>
  ⟨(k.cell (p := ⟨b, _, none⟩) hb).trans (h i hi).1, (k.cell (p := ⟨b, _, none⟩) hb).trans (h i hi).2⟩

def befE (x y : Int × Int) : Bool := bef x.1 x.2 y.1 y.2
/-- where the first stands, of the first j, that none is before -/
def leastS (l : List (Int × Int)) : Nat → Nat
  | 0 => 0
  | j + 1 => if befE (ent l j) (ent l (leastS l j)) = true then j else leastS l j

theorem beq_len {n : Nat} (h : 0 < n) : ((n : Int) == 0) = false := by rw [beq_eq_false_iff_ne]; omega

theorem ret_ib {a b : Int} {c d : Bool} (h : a = b) (h' : c = d) : Ending.returned (.tuple #[.int .i64 a, .bool c]) = .returned (.tuple #[.int .i64 b, .bool d]) := by rw [h, h']
theorem below_a1 {B : Nat} {w wr : World} (h : Below B w wr) (hB : B ≤ w.heap.size) (o : Obj) : Below B w (wr.alloc o) := h.alloc (Nat.le_trans hB h.size) o

theorem leastS_yes {l : List (Int × Int)} {j : Nat} (h : befE (ent l j) (ent l (leastS l j)) = true) : leastS l (j + 1) = j := by show (if _ then _ else _) = _; rw [if_pos h]
theorem leastS_no {l : List (Int × Int)} {j : Nat} (h : befE (ent l j) (ent l (leastS l j)) = false) : leastS l (j + 1) = leastS l j := by show (if _ then _ else _) = _; rw [if_neg (by rw [h]; decide)]

set_option maxHeartbeats 400000 in
theorem least_any (b off cap : Nat) (l : List (Int × Int)) (w : World) (hb : b < w.heap.size) (hl : l.length ≤ 1000000) (h0 : 0 < l.length) (hr : Row w b off l) :
    Calls Try.prog 26 #[.slice (some ⟨b, off, none⟩) l.length cap] w fun e w' => e = .returned (.tuple #[.int .i64 (leastS l l.length), .bool true]) ∧ Below w.heap.size w w' := by
  have hne := beq_len h0
  go_enter Try.func26, Try.ntmps26
  go_wp2
  go_loopw [4, 12] (fun a i wr => ∃ k j : Nat, a = .int .i64 k ∧ i = .int .i64 j ∧ j ≤ l.length ∧ k < l.length ∧ k = leastS l j ∧ Below w.heap.size w wr) (fun _ i _ => l.length - (intOf i).toNat)
  case atStart => exact ⟨0, 0, rfl, rfl, Nat.zero_le _, h0, rfl, Below.refl _ _⟩
  case round =>
    obtain ⟨k, j, rfl, rfl, hj, hk, hkl, hbel⟩ := hrel
    have HK : Hid (k = leastS l j) := hkl
    clear hkl
    by_cases hlt : j < l.length
    · have hr' := hr.below hb hbel
      have hbr : b < wr.heap.size := Nat.lt_of_lt_of_le hb hbel.size
      have hbr1 : b < wr.heap.size + 1 := by omega
      have hbr2 : b < wr.heap.size + 1 + 1 := by omega
      obtain ⟨h1, h2⟩ := hr' j hlt
      obtain ⟨h3, h4⟩ := hr' k hk
      clear hr hr' hne
      generalize hx : (ent l j) = x at h1 h2
      generalize hy : (ent l k) = y at h3 h4
      have HX : Hid (ent l j = x) := hx
      have HY : Hid (ent l k = y) := hy
      clear hx hy
      go_wp2
      go_region_held3 (fun w' => w'.cell? ⟨b, off + k * 2, none⟩ = some (.int .i64 y.1) ∧ w'.cell? ⟨b, off + k * 2 + 1, none⟩ = some (.int .i64 y.2) ∧ w'.cell? ⟨wr.heap.size, 0, none⟩ = some (.int .i64 x.1) ∧ w'.cell? ⟨wr.heap.size, 1, none⟩ = some (.int .i64 x.2)) (simp [go_sem, hbr, hbr1, hbr2, h3, h4])
        (first | (go_at_call 14; refine (before_any _ _ _ _ _).mono ?_; rintro e w' ⟨rfl, o1, o2, rfl⟩))
      rename_i hH
      clear hH h1 h2 h3 h4 hbr hbr1 hbr2
      have hbl : Below w.heap.size w ((((wr.alloc (.cells #[.int .i64 x.1, .int .i64 x.2] 26)).alloc (.cells o1 26)).alloc (.cells o2 26)).drew) := (below_a1 (below_a1 (below_a1 hbel (Nat.le_refl _) _) (Nat.le_refl _) _) (Nat.le_refl _) _).drew
      generalize hb2 : bef x.1 x.2 y.1 y.2 = r
      cases r
      · go_wp2
        go_roundw
        case rel => exact ⟨k, j + 1, rfl, by go_num, by omega, hk, by rw [leastS_no (by rw [← HK.out, HX.out, HY.out]; exact hb2)]; exact HK.out, hbl⟩
        case measure => simp [intOf]; omega
      · go_wp2
        go_roundw
        case rel => exact ⟨j, j + 1, rfl, by go_num, by omega, hlt, (leastS_yes (by rw [← HK.out, HX.out, HY.out]; exact hb2)).symm, hbl⟩
        case measure => simp [intOf]; omega
    · obtain rfl : j = l.length := by omega
      go_wp2
      go_ret2
      exact ⟨ret_ib (by rw [← HK.out]) rfl, hbel⟩
end Go.Proofs.Ytjjahhiaelaocaa
