/- Literals of one item; new's bounds. -/
import Derived.Test.YthfdooigljkfiaaGh
import Derived.Test.YthfdooigljkfiaaTill
namespace Go.Proofs.Ythfdooigljkfiaa
open Go.ChangeShapes Go.WideShapes Go.ChangeAt Go.RowKit
open Tr

theorem lit3N (w : World) {base : Nat} (n : Nat) (hn : n = w.heap.size) (hb : base ≤ n) : (w.alloc (.cells #[] 55)).ownsRow base 55 3 (.slice (some ⟨n, 0, none⟩) 0 0) 0 [] := by
  subst hn
  exact World.ownsRow_lit (base := base) (e := 55) (size := 3) w #[] 0 hb (by simp [maxLen]) rfl
theorem lit3 (w : World) {base : Nat} (hb : base ≤ w.heap.size) : (w.alloc (.cells #[] 55)).ownsRow base 55 3 (.slice (some ⟨w.heap.size, 0, none⟩) 0 0) 0 [] := lit3N w _ rfl hb
theorem Sz.oneN (w : World) (n : Nat) (hn : n = w.heap.size) (x : Nat × Int × Int) : Sz (n + 1) (w.alloc (.cells #[.int .i64 (x.1 : Int), .int .i64 x.2.1, .int .i64 x.2.2] 55)) (.slice (some ⟨n, 0, none⟩) 1 1) [x] := by
  subst hn
  refine Or.inr ⟨w.heap.size, 0, 1, rfl, by omega, fun j u hu => ?_⟩
  rw [Nat.zero_add]
  refine blk_cell (heap_alloc_new w _) ?_
  simpa [row, h3] using hu
theorem Sz.one (w : World) (x : Nat × Int × Int) : Sz (w.heap.size + 1) (w.alloc (.cells #[.int .i64 (x.1 : Int), .int .i64 x.2.1, .int .i64 x.2.2] 55)) (.slice (some ⟨w.heap.size, 0, none⟩) 1 1) [x] := Sz.oneN w _ rfl x
theorem Sz.grown {B g n cap : Nat} {w w' : World} {l : List (Nat × Int × Int)} {r : Option Nat} (h : Sz B w (.slice (some ⟨g, 0, none⟩) n cap) l) (hg : w.grownBy w' r) (hB : g < w.heap.size) (hr : r ≠ some g) : Sz B w' (.slice (some ⟨g, 0, none⟩) n cap) l := by
  rcases h with ⟨h, _⟩ | ⟨b, off, c, e, h1, h2⟩
  · cases h
  · cases e
    exact Or.inr ⟨g, 0, cap, rfl, h1, fun j u hu => (World.cell?_of_block (w := w) (hg.block g hB fun e => hr e.symm)).trans (h2 j u hu)⟩
theorem new_steps {s : St} (h : 0 ≤ nextS s) (a b : Int) : (newS s a b).steps = s.steps + 3 := by unfold newS; rw [if_pos h, set_steps, set_steps, take_steps]
theorem new_most (s : St) (a b : Int) : (newS s a b).most = s.most := by
  unfold newS; split
  · rw [set_most, set_most, take_most]
  · exact take_most s

end Go.Proofs.Ythfdooigljkfiaa
