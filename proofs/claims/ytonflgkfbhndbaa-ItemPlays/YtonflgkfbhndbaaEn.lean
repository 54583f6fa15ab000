/- How a slice of entries that came in is opened. -/
import Derived.Test.YtonflgkfbhndbaaMn
namespace Go.Proofs.Ytonflgkfbhndbaa
open Go.ChangeShapes Go.WideShapes Go.ChangeAt Go.RowKit

theorem cells24 : Try.prog.cellsOf 24 = 2 := by kernel_rfl
def entI (x : Int × Int) : Prop := I64 x.1 ∧ I64 x.2
theorem ent_cells {H : Type} {enc : TypeId × Value → H} {w : World} {base : Nat} {spare : Nat → Bool} {held : Bool} {fuel : Nat} {cs : List Value} {x : DataW H × List MemPlace} (h : DataW.trod enc Try.prog w base spare held fuel 24 cs = some x) : ∃ q : Int × Int, cs = ent2 q ∧ entI q := by
  obtain ⟨y0, y1, n, _, hl, h0, h1⟩ := trod_struct2 Try.underlying24 h
  rw [cells24] at hl
  match cs, hl with
  | [c0, c1], _ =>
    rw [cells2] at h0 h1
    obtain ⟨a, e0, i0⟩ := int2_cells h0
    obtain ⟨b, e1, i1⟩ := int2_cells h1
    simp at e0 e1
    exact ⟨(a, b), by rw [e0, e1]; rfl, i0, i1⟩
end Go.Proofs.Ytonflgkfbhndbaa
