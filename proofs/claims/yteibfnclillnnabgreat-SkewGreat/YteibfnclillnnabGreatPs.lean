/- The laws' pop, of any heap; what the world's lists are in memory. -/
import Derived.Test.YteibfnclillnnabGreatPo
namespace Go.Proofs.YteibfnclillnnabGreat
open Go.ChangeShapes Go.WideShapes Go.ChangeAt Go.RowKit
open Tr

theorem pop0S {w0 : Fm} {w : World} {pw N K : Nat} {L0 L1 : List (Nat × Int × Int)} {nx : Int} (h : Sit w0 w pw N K L0 L1 nx) (hl : L0.length ≤ 700) (hK : K ≤ 90000000) :
    Calls Tryz.prog 12 #[.pointer (some ⟨pw, 0, none⟩), .int .i64 0] w fun e w' => e = .returned (.bool true) ∧ Sit w0 w' pw N (K + 1000) (popL L0) L1 nx := by
  by_cases h0 : L0 = []
  · subst h0; exact pop0_none h rfl hK
  · exact pop0_some h h0 hl hK
theorem pop1S {w0 : Fm} {w : World} {pw N K : Nat} {L0 L1 : List (Nat × Int × Int)} {nx : Int} (h : Sit w0 w pw N K L0 L1 nx) (hl : L1.length ≤ 700) (hK : K ≤ 90000000) :
    Calls Tryz.prog 12 #[.pointer (some ⟨pw, 0, none⟩), .int .i64 1] w fun e w' => e = .returned (.bool true) ∧ Sit w0 w' pw N (K + 1000) L0 (popL L1) nx := by
  by_cases h0 : L1 = []
  · subst h0; exact pop1_none h rfl hK
  · exact pop1_some h h0 hl hK
/-- what the world's lists are in memory -/
theorem Sit.has {w0 : Fm} {w : World} {pw N K : Nat} {L0 L1 : List (Nat × Int × Int)} {nx : Int} (h : Sit w0 w pw N K L0 L1 nx) : pw < w.heap.size ∧ ∃ v0 v1 P, w.cell? ⟨pw, 3, none⟩ = some v0 ∧ w.cell? ⟨pw, 4, none⟩ = some v1 ∧ Lz P w v0 L0 ∧ Lz P w v1 L1 := by
  obtain ⟨F, pa, pm, v0, v1, s, t, u, sp, mo, hw, hi, hk, hm⟩ := h
  obtain ⟨_, _, _, c3, c4, _⟩ := hw.cells
  exact ⟨hw.lt, v0, v1, _, c3, c4, hw.l0, hw.l1⟩

end Go.Proofs.YteibfnclillnnabGreat
