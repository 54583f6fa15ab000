/- The calls that play is asked for: how they lie in a slice that came in. -/
import Derived.Test.YticpldlckdckdaaLa
namespace Go.Proofs.Yticpldlckdckdaa
open Go.ChangeShapes Go.WideShapes Go.ChangeAt Go.RowKit

theorem cells25 : Try.prog.cellsOf 25 = 3 := by kernel_rfl
/-- a call that is asked for of play -/
structure Akk where
  kind : Int
  c : Int
  d : Int
def ask3 (q : Akk) : List Value := [.int .i64 q.kind, .int .i64 q.c, .int .i64 q.d]
def akkI (q : Akk) : Prop := I64 q.kind ∧ I64 q.c ∧ I64 q.d
section
variable {H : Type} {enc : TypeId × Value → H} {w : World} {base : Nat} {spare : Nat → Bool} {held : Bool}
theorem akk_cells {fuel : Nat} {cs : List Value} {x : DataW H × List MemPlace} (h : DataW.trod enc Try.prog w base spare held fuel 25 cs = some x) : ∃ q : Akk, cs = ask3 q ∧ akkI q := by
  obtain ⟨y0, y1, y2, n, _, hl, h0, h1, h2⟩ := Deep.trod_struct3 Try.underlying25 h
  rw [cells25] at hl
  match cs, hl with
  | [c0, c1, c2], _ =>
    rw [cells3] at h0 h1 h2
    obtain ⟨a, e0, i0⟩ := int_cells h0
    obtain ⟨b, e1, i1⟩ := int_cells h1
    obtain ⟨c, e2, i2⟩ := int_cells h2
    simp at e0 e1 e2
    exact ⟨⟨a, b, c⟩, by rw [e0, e1, e2]; rfl, i0, i1, i2⟩
end
end Go.Proofs.Yticpldlckdckdaa
