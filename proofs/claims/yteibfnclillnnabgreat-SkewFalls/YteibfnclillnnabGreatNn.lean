/- Heaps of nothing. -/
import Derived.Test.YteibfnclillnnabGreatGj
namespace Go.Proofs.YteibfnclillnnabGreat
open Go.ChangeShapes Go.WideShapes Go.ChangeAt Go.RowKit
open Tr

/-- a heap of nothing is None -/
theorem Sit.none1 {w0 : Fm} {w : World} {pw N K : Nat} {L0 : List (Nat × Int × Int)} {nx : Int} (h : Sit w0 w pw N K L0 [] nx) : w.cell? ⟨pw, 2, none⟩ = some (.int .i64 (-1)) := by
  obtain ⟨F, pa, pm, v0, v1, s, t, u, sp, mo, hw, hi, hk, hm⟩ := h
  obtain ⟨_, _, c2, _⟩ := hw.cells
  have := hi.b.none.2 rfl
  subst this
  exact c2
theorem Sit.none0 {w0 : Fm} {w : World} {pw N K : Nat} {L1 : List (Nat × Int × Int)} {nx : Int} (h : Sit w0 w pw N K [] L1 nx) : w.cell? ⟨pw, 1, none⟩ = some (.int .i64 (-1)) := by
  obtain ⟨F, pa, pm, v0, v1, s, t, u, sp, mo, hw, hi, hk, hm⟩ := h
  obtain ⟨_, c1, _⟩ := hw.cells
  have := hi.a.none.2 rfl
  subst this
  exact c1
theorem popL_le (L : List (Nat × Int × Int)) : (popL L).length ≤ L.length := by
  by_cases h : L = []
  · subst h; exact Nat.le_refl _
  · rw [popL_len h]; omega

end Go.Proofs.YteibfnclillnnabGreat
