/-
  No cell of these rows narrows 'for every input' (looked for: loops, veiled, ifaces, maps, wideKeys, modest, calm, conditions, laid).
  DERIVED. THE GIVEN ROWS OF THIS SEAT. 6 by the template 'for every input the law returns true; each argument reads behind the call as it read before'; 0 by the template 'total and deterministic' (their statements: YteibfnclillnnaaGreatTotals.lean).
  GIVEN WITH THE SEED: the statements are not yours to turn. If you find one false, say at which input.
  Laid BY PROGRAM, IN A SANDBOX (cutbox-rows.mjs): the forced cells as the released guide's own fill.sh prints them over the translation abeed51e7d8eff28… (all of the seat's roots in one cut). By AI agents, Wed Nov 11 2026. No macro, syntax, notation, axiom, sorry.
-/
import Derived.Test.YteibfnclillnnaaGreatChecked
import GoSem.Claim
import GoSem.ClaimJoined
import GoSem.ClaimMapViews
import Derived.JoinedTies
import Derived.KernelRfl
namespace Go.Proofs.YteibfnclillnnaaGreat
/- THE CELL 'sum', in the pinned program and in every row, IS THE sha256 OF THE DUMP (.gsa) THAT YteibfnclillnnaaGreatProg.lean LOADS. Nothing in Lean hashes anything: it is a label: what it is worth is what the hold of that sum in a sandbox is worth. -/
noncomputable def Tryz.pinned : Pinned := { name := "yteibfnclillnnaagreat", sum := "abeed51e7d8eff282f3425a0df5d6b4d30b82e19fc57c5b5a51d02c4a77cafa8", checked := Tryz.checked }
namespace Rows
def none {H : Type} : Left H := { results := [], args := [] }

/-- 'thicketlaw11.SkewNumbers': WHATEVER THE INPUT: true; the input reads as it did. -/
def skewNumbersSpec : ChangeSpec := { name := "skewNumbers", fn := fun _ => fun
  | [] => { results := [.lit (.bool true)], args := [] }
  | _ => none }
def skewNumbersRow : OpenClaim := { program := "yteibfnclillnnaagreat", sum := "abeed51e7d8eff282f3425a0df5d6b4d30b82e19fc57c5b5a51d02c4a77cafa8", func := "thicket/thicketlaw11.SkewNumbers", spec := "skewNumbers", unfollowed := true, recurses := true, apart := false }
def SkewNumbersSaid : Prop := skewNumbersRow.holds Tryz.pinned (OpenSpec.ofChange skewNumbersSpec)

/-- ITS FALSE NEIGHBOUR: 'it returns false'. Refute it at one input. -/
def skewNumbersWrong : ChangeSpec := { name := "skewNumbers", fn := fun _ => fun
  | [] => { results := [.lit (.bool false)], args := [] }
  | _ => none }
def SkewNumbersWrongFalsely : Prop := skewNumbersRow.holds Tryz.pinned (OpenSpec.ofChange skewNumbersWrong)

/-- 'thicketlaw11.SkewPlays': WHATEVER THE INPUT: true; the input reads as it did. -/
def skewPlaysSpec : ChangeSpec := { name := "skewPlays", fn := fun _ => fun
  | [d] => { results := [.lit (.bool true)], args := [d] }
  | _ => none }
def skewPlaysRow : OpenClaim := { program := "yteibfnclillnnaagreat", sum := "abeed51e7d8eff282f3425a0df5d6b4d30b82e19fc57c5b5a51d02c4a77cafa8", func := "thicket/thicketlaw11.SkewPlays", spec := "skewPlays", unfollowed := true, recurses := true, apart := false }
def SkewPlaysSaid : Prop := skewPlaysRow.holds Tryz.pinned (OpenSpec.ofChange skewPlaysSpec)

/-- ITS FALSE NEIGHBOUR: 'it returns false'. Refute it at one input. -/
def skewPlaysWrong : ChangeSpec := { name := "skewPlays", fn := fun _ => fun
  | [d] => { results := [.lit (.bool false)], args := [d] }
  | _ => none }
def SkewPlaysWrongFalsely : Prop := skewPlaysRow.holds Tryz.pinned (OpenSpec.ofChange skewPlaysWrong)

/-- 'thicketlaw11.SkewFull': WHATEVER THE INPUT: true; the input reads as it did. -/
def skewFullSpec : ChangeSpec := { name := "skewFull", fn := fun _ => fun
  | [d1, d2] => { results := [.lit (.bool true)], args := [d1, d2] }
  | _ => none }
def skewFullRow : OpenClaim := { program := "yteibfnclillnnaagreat", sum := "abeed51e7d8eff282f3425a0df5d6b4d30b82e19fc57c5b5a51d02c4a77cafa8", func := "thicket/thicketlaw11.SkewFull", spec := "skewFull", unfollowed := true, recurses := true, apart := false }
def SkewFullSaid : Prop := skewFullRow.holds Tryz.pinned (OpenSpec.ofChange skewFullSpec)

/-- ITS FALSE NEIGHBOUR: 'it returns false'. Refute it at one input. -/
def skewFullWrong : ChangeSpec := { name := "skewFull", fn := fun _ => fun
  | [d1, d2] => { results := [.lit (.bool false)], args := [d1, d2] }
  | _ => none }
def SkewFullWrongFalsely : Prop := skewFullRow.holds Tryz.pinned (OpenSpec.ofChange skewFullWrong)

/-- 'thicketlaw11.SkewSorts': WHATEVER THE INPUT: true; the input reads as it did. -/
def skewSortsSpec : ChangeSpec := { name := "skewSorts", fn := fun _ => fun
  | [d1, d2] => { results := [.lit (.bool true)], args := [d1, d2] }
  | _ => none }
def skewSortsRow : OpenClaim := { program := "yteibfnclillnnaagreat", sum := "abeed51e7d8eff282f3425a0df5d6b4d30b82e19fc57c5b5a51d02c4a77cafa8", func := "thicket/thicketlaw11.SkewSorts", spec := "skewSorts", unfollowed := true, recurses := true, apart := false }
def SkewSortsSaid : Prop := skewSortsRow.holds Tryz.pinned (OpenSpec.ofChange skewSortsSpec)

/-- ITS FALSE NEIGHBOUR: 'it returns false'. Refute it at one input. -/
def skewSortsWrong : ChangeSpec := { name := "skewSorts", fn := fun _ => fun
  | [d1, d2] => { results := [.lit (.bool false)], args := [d1, d2] }
  | _ => none }
def SkewSortsWrongFalsely : Prop := skewSortsRow.holds Tryz.pinned (OpenSpec.ofChange skewSortsWrong)

/-- 'thicketlaw11.SkewMelds': WHATEVER THE INPUT: true; the input reads as it did. -/
def skewMeldsSpec : ChangeSpec := { name := "skewMelds", fn := fun _ => fun
  | [d1, d2] => { results := [.lit (.bool true)], args := [d1, d2] }
  | _ => none }
def skewMeldsRow : OpenClaim := { program := "yteibfnclillnnaagreat", sum := "abeed51e7d8eff282f3425a0df5d6b4d30b82e19fc57c5b5a51d02c4a77cafa8", func := "thicket/thicketlaw11.SkewMelds", spec := "skewMelds", unfollowed := true, recurses := true, apart := false }
def SkewMeldsSaid : Prop := skewMeldsRow.holds Tryz.pinned (OpenSpec.ofChange skewMeldsSpec)

/-- ITS FALSE NEIGHBOUR: 'it returns false'. Refute it at one input. -/
def skewMeldsWrong : ChangeSpec := { name := "skewMelds", fn := fun _ => fun
  | [d1, d2] => { results := [.lit (.bool false)], args := [d1, d2] }
  | _ => none }
def SkewMeldsWrongFalsely : Prop := skewMeldsRow.holds Tryz.pinned (OpenSpec.ofChange skewMeldsWrong)

/-- 'thicketlaw11.SkewDrops': WHATEVER THE INPUT: true; the input reads as it did. -/
def skewDropsSpec : ChangeSpec := { name := "skewDrops", fn := fun _ => fun
  | [d1, d2] => { results := [.lit (.bool true)], args := [d1, d2] }
  | _ => none }
def skewDropsRow : OpenClaim := { program := "yteibfnclillnnaagreat", sum := "abeed51e7d8eff282f3425a0df5d6b4d30b82e19fc57c5b5a51d02c4a77cafa8", func := "thicket/thicketlaw11.SkewDrops", spec := "skewDrops", unfollowed := true, recurses := true, apart := false }
def SkewDropsSaid : Prop := skewDropsRow.holds Tryz.pinned (OpenSpec.ofChange skewDropsSpec)

/-- ITS FALSE NEIGHBOUR: 'it returns false'. Refute it at one input. -/
def skewDropsWrong : ChangeSpec := { name := "skewDrops", fn := fun _ => fun
  | [d1, d2] => { results := [.lit (.bool false)], args := [d1, d2] }
  | _ => none }
def SkewDropsWrongFalsely : Prop := skewDropsRow.holds Tryz.pinned (OpenSpec.ofChange skewDropsWrong)

/- THE SECOND FORM. 'bulk': how many values and letters a reading holds, each counted each time it is reached (what is shared counts as often as it is met; a slice's spare places count too). A statement '..UptoSaid' is the law's where the arguments, and the package variables that the reading takes, are together of bulk at most 1048576: NARROWER than '..Said'. Prove '..Said' where nothing that the law and all that it calls make is longer than what came in: it says more and counts as full. Else prove '..UptoSaid'. A law counts once. -/
mutual
def uptoBulk {H : Type} : DataW H → Nat
  | .lit (.string bytes) => bytes.length + 1
  | .lit _ => 1
  | .nil => 1
  | .ptr d => uptoBulk d + 1
  | .slice elems spare => uptoBulkAll elems + uptoBulkAll spare + 1
  | .agg parts => uptoBulkAll parts + 1
  | .iface _ d => uptoBulk d + 1
  | .map entries => uptoBulkEntries entries + 1
  | .held _ => 1
def uptoBulkAll {H : Type} : List (DataW H) → Nat
  | [] => 0
  | d :: r => uptoBulk d + uptoBulkAll r
def uptoBulkEntries {H : Type} : List (Lit × DataW H) → Nat
  | [] => 0
  | x :: r => uptoBulkEntry x + uptoBulkEntries r
def uptoBulkEntry {H : Type} : Lit × DataW H → Nat
  | (.string bytes, d) => bytes.length + uptoBulk d + 1
  | (_, d) => uptoBulk d + 1
 end
def uptoSmall : (H : Type) → List (DataW H) → Bool := fun _ ds => decide (uptoBulkAll ds ≤ 1048576)
def OpenSpec.upto (s : _root_.Go.ChangeSpec) : _root_.Go.OpenSpec := { _root_.Go.OpenSpec.ofChange s with cond := some uptoSmall }

/-- 'thicketlaw11.SkewNumbers', WHERE WHAT IT READS IS OF BULK AT MOST 1048576: true; the input reads as it did. -/
def skewNumbersUptoRow : OpenClaim := { program := "yteibfnclillnnaagreat", sum := "abeed51e7d8eff282f3425a0df5d6b4d30b82e19fc57c5b5a51d02c4a77cafa8", func := "thicket/thicketlaw11.SkewNumbers", spec := "skewNumbers", unfollowed := true, recurses := true, apart := false, narrowed := true }
def SkewNumbersUptoSaid : Prop := skewNumbersUptoRow.holds Tryz.pinned (OpenSpec.upto skewNumbersSpec)

/-- 'thicketlaw11.SkewPlays', WHERE WHAT IT READS IS OF BULK AT MOST 1048576: true; the input reads as it did. -/
def skewPlaysUptoRow : OpenClaim := { program := "yteibfnclillnnaagreat", sum := "abeed51e7d8eff282f3425a0df5d6b4d30b82e19fc57c5b5a51d02c4a77cafa8", func := "thicket/thicketlaw11.SkewPlays", spec := "skewPlays", unfollowed := true, recurses := true, apart := false, narrowed := true }
def SkewPlaysUptoSaid : Prop := skewPlaysUptoRow.holds Tryz.pinned (OpenSpec.upto skewPlaysSpec)

/-- 'thicketlaw11.SkewFull', WHERE WHAT IT READS IS OF BULK AT MOST 1048576: true; the input reads as it did. -/
def skewFullUptoRow : OpenClaim := { program := "yteibfnclillnnaagreat", sum := "abeed51e7d8eff282f3425a0df5d6b4d30b82e19fc57c5b5a51d02c4a77cafa8", func := "thicket/thicketlaw11.SkewFull", spec := "skewFull", unfollowed := true, recurses := true, apart := false, narrowed := true }
def SkewFullUptoSaid : Prop := skewFullUptoRow.holds Tryz.pinned (OpenSpec.upto skewFullSpec)

/-- 'thicketlaw11.SkewSorts', WHERE WHAT IT READS IS OF BULK AT MOST 1048576: true; the input reads as it did. -/
def skewSortsUptoRow : OpenClaim := { program := "yteibfnclillnnaagreat", sum := "abeed51e7d8eff282f3425a0df5d6b4d30b82e19fc57c5b5a51d02c4a77cafa8", func := "thicket/thicketlaw11.SkewSorts", spec := "skewSorts", unfollowed := true, recurses := true, apart := false, narrowed := true }
def SkewSortsUptoSaid : Prop := skewSortsUptoRow.holds Tryz.pinned (OpenSpec.upto skewSortsSpec)

/-- 'thicketlaw11.SkewMelds', WHERE WHAT IT READS IS OF BULK AT MOST 1048576: true; the input reads as it did. -/
def skewMeldsUptoRow : OpenClaim := { program := "yteibfnclillnnaagreat", sum := "abeed51e7d8eff282f3425a0df5d6b4d30b82e19fc57c5b5a51d02c4a77cafa8", func := "thicket/thicketlaw11.SkewMelds", spec := "skewMelds", unfollowed := true, recurses := true, apart := false, narrowed := true }
def SkewMeldsUptoSaid : Prop := skewMeldsUptoRow.holds Tryz.pinned (OpenSpec.upto skewMeldsSpec)

/-- 'thicketlaw11.SkewDrops', WHERE WHAT IT READS IS OF BULK AT MOST 1048576: true; the input reads as it did. -/
def skewDropsUptoRow : OpenClaim := { program := "yteibfnclillnnaagreat", sum := "abeed51e7d8eff282f3425a0df5d6b4d30b82e19fc57c5b5a51d02c4a77cafa8", func := "thicket/thicketlaw11.SkewDrops", spec := "skewDrops", unfollowed := true, recurses := true, apart := false, narrowed := true }
def SkewDropsUptoSaid : Prop := skewDropsUptoRow.holds Tryz.pinned (OpenSpec.upto skewDropsSpec)

end Rows
end Go.Proofs.YteibfnclillnnaaGreat
