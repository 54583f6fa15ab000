/- Nine lists laid in memory. -/
import Derived.Test.YtmfnbgljioecpaaWk
namespace Go.Proofs.Ytmfnbgljioecpaa
open Go.ChangeShapes Go.WideShapes Go.ChangeAt Go.RowKit

/-- the block of a list that was laid, many blocks later -/
theorem push_at (w : World) (o : Obj) (k : Nat) (x : Obj) (h : w.heap[k]? = some x) : (w.alloc o).heap[k]? = some x := (Below.heap_alloc _ _ _ (lt_of_block h)).trans h

def nine : List (List Int) := [[-1], [29], [28], [28, 28], [0, 0, 0], [0, 1, 1], [2, 1], [0, 0, 0, 1], [3, 3, 4]]
/-- lists laid one behind the other -/
def lay : World → List (List Int) → World
  | w, [] => w
  | w, l :: r => lay (w.alloc (.cells (row int1 l).toArray 3)) r
theorem lay_size : ∀ (ls : List (List Int)) (w : World), (lay w ls).heap.size = w.heap.size + ls.length
  | [], w => rfl
  | l :: r, w => by simp only [lay, List.length_cons]; rw [lay_size r]; simp; omega
theorem lay_old : ∀ (ls : List (List Int)) (w : World) (k : Nat) (x : Obj), w.heap[k]? = some x → (lay w ls).heap[k]? = some x
  | [], _, _, _, h => h
  | _ :: r, w, k, x, h => lay_old r _ k x (push_at w _ k x h)
theorem lay_at : ∀ (ls : List (List Int)) (w : World) (i : Nat) (l : List Int), ls[i]? = some l → (lay w ls).heap[w.heap.size + i]? = some (.cells (row int1 l).toArray 3 (0, 0))
  | [], _, _, _, h => by simp at h
  | x :: r, w, 0, l, h => by
    simp at h; subst h
    exact lay_old r _ _ _ (heap_alloc_new w _)
  | x :: r, w, i + 1, l, h => by
    have := lay_at r (w.alloc (.cells (row int1 x).toArray 3)) i l (by simpa using h)
    simp only [lay]
    rw [show w.heap.size + (i + 1) = (w.alloc (.cells (row int1 x).toArray 3)).heap.size + i by simp; omega]
    exact this
theorem lay_below : ∀ (ls : List (List Int)) (w0 w : World), Below w0.heap.size w0 w → Below w0.heap.size w0 (lay w ls)
  | [], _, _, h => h
  | _ :: r, w0, _, h => lay_below r w0 _ (alloc_below h _)
theorem nine_boxes (wr W1 : World) (hW : W1 = (lay wr nine).alloc (.cells #[.slice (some ⟨wr.heap.size, 0, none⟩) 1 1, .slice (some ⟨wr.heap.size + 1, 0, none⟩) 1 1, .slice (some ⟨wr.heap.size + 1 + 1, 0, none⟩) 1 1, .slice (some ⟨wr.heap.size + 1 + 1 + 1, 0, none⟩) 2 2, .slice (some ⟨wr.heap.size + 1 + 1 + 1 + 1, 0, none⟩) 3 3, .slice (some ⟨wr.heap.size + 1 + 1 + 1 + 1 + 1, 0, none⟩) 3 3, .slice (some ⟨wr.heap.size + 1 + 1 + 1 + 1 + 1 + 1, 0, none⟩) 2 2, .slice (some ⟨wr.heap.size + 1 + 1 + 1 + 1 + 1 + 1 + 1, 0, none⟩) 4 4, .slice (some ⟨wr.heap.size + 1 + 1 + 1 + 1 + 1 + 1 + 1 + 1, 0, none⟩) 3 3] 22)) :
    (∀ j, j < 9 → ∃ a c l, W1.cell? ⟨wr.heap.size + 1 + 1 + 1 + 1 + 1 + 1 + 1 + 1 + 1, j, none⟩ = some (.slice a (List.length l) c) ∧ Lst W1 (.slice a l.length c) l ∧ l.length ≤ 800) ∧ Below wr.heap.size wr W1 := by
  subst hW
  have hs : (lay wr nine).heap.size = wr.heap.size + 9 := lay_size nine wr
  refine ⟨fun j hj => ?_, alloc_below (lay_below nine wr wr (Below.refl _ _)) _⟩
  have ho := heap_alloc_new (lay wr nine) (.cells #[.slice (some ⟨wr.heap.size, 0, none⟩) 1 1, .slice (some ⟨wr.heap.size + 1, 0, none⟩) 1 1, .slice (some ⟨wr.heap.size + 1 + 1, 0, none⟩) 1 1, .slice (some ⟨wr.heap.size + 1 + 1 + 1, 0, none⟩) 2 2, .slice (some ⟨wr.heap.size + 1 + 1 + 1 + 1, 0, none⟩) 3 3, .slice (some ⟨wr.heap.size + 1 + 1 + 1 + 1 + 1, 0, none⟩) 3 3, .slice (some ⟨wr.heap.size + 1 + 1 + 1 + 1 + 1 + 1, 0, none⟩) 2 2, .slice (some ⟨wr.heap.size + 1 + 1 + 1 + 1 + 1 + 1 + 1, 0, none⟩) 4 4, .slice (some ⟨wr.heap.size + 1 + 1 + 1 + 1 + 1 + 1 + 1 + 1, 0, none⟩) 3 3] 22)
  rw [hs] at ho
  have hb : ∀ i l, nine[i]? = some l → ((lay wr nine).alloc (.cells #[.slice (some ⟨wr.heap.size, 0, none⟩) 1 1, .slice (some ⟨wr.heap.size + 1, 0, none⟩) 1 1, .slice (some ⟨wr.heap.size + 1 + 1, 0, none⟩) 1 1, .slice (some ⟨wr.heap.size + 1 + 1 + 1, 0, none⟩) 2 2, .slice (some ⟨wr.heap.size + 1 + 1 + 1 + 1, 0, none⟩) 3 3, .slice (some ⟨wr.heap.size + 1 + 1 + 1 + 1 + 1, 0, none⟩) 3 3, .slice (some ⟨wr.heap.size + 1 + 1 + 1 + 1 + 1 + 1, 0, none⟩) 2 2, .slice (some ⟨wr.heap.size + 1 + 1 + 1 + 1 + 1 + 1 + 1, 0, none⟩) 4 4, .slice (some ⟨wr.heap.size + 1 + 1 + 1 + 1 + 1 + 1 + 1 + 1, 0, none⟩) 3 3] 22)).heap[wr.heap.size + i]? = some (.cells (row int1 l).toArray 3 (0, 0)) := fun i l hl => push_at _ _ _ _ (lay_at nine wr i l hl)
  match j, hj with
  | 0, _ => exact ⟨_, _, [-1], blk_cell ho rfl, lst_lit [-1] (by decide) (hb 0 _ rfl), by decide⟩
  | 1, _ => exact ⟨_, _, [29], blk_cell ho rfl, lst_lit [29] (by decide) (hb 1 _ rfl), by decide⟩
  | 2, _ => exact ⟨_, _, [28], blk_cell ho rfl, lst_lit [28] (by decide) (hb 2 _ rfl), by decide⟩
  | 3, _ => exact ⟨_, _, [28, 28], blk_cell ho rfl, lst_lit [28, 28] (by decide) (hb 3 _ rfl), by decide⟩
  | 4, _ => exact ⟨_, _, [0, 0, 0], blk_cell ho rfl, lst_lit [0, 0, 0] (by decide) (hb 4 _ rfl), by decide⟩
  | 5, _ => exact ⟨_, _, [0, 1, 1], blk_cell ho rfl, lst_lit [0, 1, 1] (by decide) (hb 5 _ rfl), by decide⟩
  | 6, _ => exact ⟨_, _, [2, 1], blk_cell ho rfl, lst_lit [2, 1] (by decide) (hb 6 _ rfl), by decide⟩
  | 7, _ => exact ⟨_, _, [0, 0, 0, 1], blk_cell ho rfl, lst_lit [0, 0, 0, 1] (by decide) (hb 7 _ rfl), by decide⟩
  | 8, _ => exact ⟨_, _, [3, 3, 4], blk_cell ho rfl, lst_lit [3, 3, 4] (by decide) (hb 8 _ rfl), by decide⟩

theorem lay_nine (wr : World) : (((((((((wr.alloc (.cells #[.int .i64 (-1)] 3)).alloc (.cells #[.int .i64 29] 3)).alloc (.cells #[.int .i64 28] 3)).alloc (.cells #[.int .i64 28, .int .i64 28] 3)).alloc (.cells #[.int .i64 0, .int .i64 0, .int .i64 0] 3)).alloc (.cells #[.int .i64 0, .int .i64 1, .int .i64 1] 3)).alloc (.cells #[.int .i64 2, .int .i64 1] 3)).alloc (.cells #[.int .i64 0, .int .i64 0, .int .i64 0, .int .i64 1] 3)).alloc (.cells #[.int .i64 3, .int .i64 3, .int .i64 4] 3)) = lay wr nine := by
  simp only [nine, lay, row, int1, List.append_nil, List.cons_append, List.nil_append]
theorem of_none (n : Int) (h : n < 1 ∨ 268435456 < n) (w : World) : Calls Try.prog 11 #[.int .i64 n] w fun e w' => ∃ a c, e = .returned (.slice a 0 c) ∧ Below w.heap.size w w' := by
  refine (of_any n w).mono ?_
  rintro e w1 ⟨v1, rfl, o1, b1⟩
  have e0 : ofF n = [] := by unfold ofF; rw [if_pos h]
  rw [e0] at o1
  obtain ⟨a1, c1, rfl, _⟩ := o1.lst
  exact ⟨a1, c1, rfl, b1⟩
theorem of_some (n : Nat) (h : n ≤ 268435456) (h0 : 0 < n) (w : World) : Calls Try.prog 11 #[.int .i64 (n : Int)] w fun e w' => ∃ a c k, e = .returned (.slice a k c) ∧ 0 < k ∧ Below w.heap.size w w' := by
  refine (of_any n w).mono ?_
  rintro e w1 ⟨v1, rfl, o1, b1⟩
  rw [ofF_nat n h] at o1
  have h3 := (tn_right n h).2
  generalize tn n = T at o1 h3
  obtain ⟨a1, c1, rfl, _⟩ := o1.lst
  refine ⟨a1, c1, T.length, rfl, ?_, b1⟩
  cases T with
  | nil => simp only [vl] at h3; omega
  | cons a t => simp
theorem of_zero (w : World) : Calls Try.prog 11 #[.int .i64 0] w fun e w' => ∃ a c, e = .returned (.slice a 0 c) ∧ Below w.heap.size w w' := of_none 0 (by omega) w
theorem of_over (w : World) : Calls Try.prog 11 #[.int .i64 268435457] w fun e w' => ∃ a c, e = .returned (.slice a 0 c) ∧ Below w.heap.size w w' := of_none 268435457 (by omega) w
theorem of_top (w : World) : Calls Try.prog 11 #[.int .i64 268435456] w fun e w' => ∃ a c k, e = .returned (.slice a k c) ∧ 0 < k ∧ Below w.heap.size w w' := by
  obtain ⟨n, h1, h2⟩ : ∃ n : Nat, (268435456 : Int) = (n : Int) ∧ n ≤ 268435456 ∧ 0 < n := ⟨268435456, rfl, Nat.le_refl _, by decide⟩
  rw [h1]
  exact of_some n h2.1 h2.2 w
end Go.Proofs.Ytmfnbgljioecpaa
