/- Parts for the walk of OrderOrders: three boxed entries that stay as they are while others are compared; how often an entry stands in a list; the counting loops. -/
import Derived.Test.YtjjahhiaelaocaaEnt
import Derived.Test.YtjjahhiaelaocaaKnown
namespace Go.Proofs.Ytjjahhiaelaocaa
open Go.ChangeShapes Go.WideShapes Go.ChangeAt Go.RowKit

/-- three entries, boxed one behind the other from block B on -/
structure Three (W : World) (B : Nat) (x y z : Int × Int) : Prop where
  x1 : W.cell? ⟨B, 0, none⟩ = some (.int .i64 x.1)
  x2 : W.cell? ⟨B, 1, none⟩ = some (.int .i64 x.2)
  y1 : W.cell? ⟨B + 1, 0, none⟩ = some (.int .i64 y.1)
  y2 : W.cell? ⟨B + 1, 1, none⟩ = some (.int .i64 y.2)
  z1 : W.cell? ⟨B + 1 + 1, 0, none⟩ = some (.int .i64 z.1)
  z2 : W.cell? ⟨B + 1 + 1, 1, none⟩ = some (.int .i64 z.2)

theorem Three.below {W W' : World} {B : Nat} {x y z : Int × Int} (h : Three W B x y z) (hz : B + 3 ≤ W.heap.size) (k : Below W.heap.size W W') : Three W' B x y z :=
  ⟨(k.cell (p := ⟨B, 0, none⟩) (by simp; omega)).trans h.x1, (k.cell (p := ⟨B, 1, none⟩) (by simp; omega)).trans h.x2, (k.cell (p := ⟨B + 1, 0, none⟩) (by simp; omega)).trans h.y1, (k.cell (p := ⟨B + 1, 1, none⟩) (by simp; omega)).trans h.y2,
   (k.cell (p := ⟨B + 1 + 1, 0, none⟩) (by simp; omega)).trans h.z1, (k.cell (p := ⟨B + 1 + 1, 1, none⟩) (by simp; omega)).trans h.z2⟩

/-- Before, with its answer known, beside three boxed entries -/
theorem befT (p q : Int × Int) (t : Bool) (ht : befE p q = t) (B : Nat) (x y z : Int × Int) (W w0 : World) (hz : B + 3 ≤ W.heap.size) (h3 : Three W B x y z) (hb : Below B w0 W) :
    Calls Try.prog 14 #[.agg #[.int .i64 p.1, .int .i64 p.2], .agg #[.int .i64 q.1, .int .i64 q.2]] W fun e w' =>
      e = .returned (.bool t) ∧ B + 3 ≤ w'.heap.size ∧ Three w' B x y z ∧ Below B w0 w' := by
  refine (before_any p.1 p.2 q.1 q.2 W).mono ?_
  rintro e w' ⟨rfl, c1, c2, rfl⟩
  have k : Below W.heap.size W ((W.alloc (.cells c1 26)).alloc (.cells c2 26)) := below_a2 (Below.refl _ _) (Nat.le_refl _) _ _
  exact ⟨ret_bool ht, Nat.le_trans hz k.size, h3.below hz k, hb.trans (k.mono (by omega))⟩

/-- of the first k of l, how many are x -/
def cnt (l : List (Int × Int)) (x : Int × Int) : Nat → Nat
  | 0 => 0
  | k + 1 => cnt l x k + if ent l k = x then 1 else 0
theorem cnt_le (l : List (Int × Int)) (x : Int × Int) : ∀ k, cnt l x k ≤ k
  | 0 => Nat.le_refl _
  | k + 1 => by have := cnt_le l x k; unfold cnt; split <;> omega
theorem cnt_take (l : List (Int × Int)) (x : Int × Int) : ∀ k, k ≤ l.length → cnt l x k = (l.take k).count x
  | 0, _ => by simp [cnt]
  | k + 1, h => by
    rw [List.take_succ_eq_append_getElem (by omega), List.count_append, ← cnt_take l x k (by omega)]
    show cnt l x k + (if ent l k = x then 1 else 0) = _
    rw [ent_of_lt (by omega)]
    simp [List.count_singleton]
theorem cnt_all (l : List (Int × Int)) (x : Int × Int) : cnt l x l.length = l.count x := by
  rw [cnt_take l x l.length (Nat.le_refl _), List.take_length]
theorem cnt_perm {l m : List (Int × Int)} (h : m.Perm l) (x : Int × Int) : cnt m x l.length = cnt l x l.length := by
  rw [cnt_all, ← h.length_eq, cnt_all, h.count_eq]
theorem cnt_yes {l : List (Int × Int)} {x : Int × Int} {k : Nat} (h : ent l k = x) : cnt l x (k + 1) = cnt l x k + 1 := by simp [cnt, h]
theorem cnt_no {l : List (Int × Int)} {x : Int × Int} {k : Nat} (h : ¬ ent l k = x) : cnt l x (k + 1) = cnt l x k := by simp [cnt, h]

/-- an owned slice leads to its entries -/
theorem own_ents {w : World} {base : Nat} {v : Value} {m : List (Int × Int)} (h : w.ownsRow base 26 2 v m.length (flat m)) : ∃ a c, v = .slice a m.length c ∧ Ents w a m ∧ (∀ b off, a = some ⟨b, off, none⟩ → base ≤ b) := by
  obtain ⟨_, ⟨rfl, h0⟩ | ⟨g, cap, cur, rfl, h1, h2, h3, h4, h5, h6⟩⟩ := h
  · obtain rfl : m = [] := by cases m <;> simp_all
    exact ⟨none, 0, rfl, Or.inl rfl, fun b off e => by cases e⟩
  · have ho := own_of_block h2 h6
    exact ⟨_, cap, rfl, Or.inr ⟨g, 0, rfl, ho.lt, ho.row⟩, fun b off e => by cases e; exact h1⟩
end Go.Proofs.Ytjjahhiaelaocaa
