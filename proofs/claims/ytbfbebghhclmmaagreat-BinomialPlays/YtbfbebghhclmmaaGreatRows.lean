/-
  No cell of these rows narrows 'for every input' (looked for: loops, veiled, ifaces, maps, wideKeys, modest, calm, conditions, laid).
  DERIVED. THE GIVEN ROWS OF THIS SEAT. 5 by the template 'for every input the law returns true; each argument reads behind the call as it read before'; 0 by the template 'total and deterministic' (their statements: YtbfbebghhclmmaaGreatTotals.lean).
  GIVEN WITH THE SEED: the statements are not yours to turn. If you find one false, say at which input.
  Laid BY PROGRAM, IN A SANDBOX (cutbox-rows.mjs): the forced cells as the released guide's own fill.sh prints them over the translation e3385c7330c4d2d5… (all of the seat's roots in one cut). By AI agents, Wed Nov 11 2026. No macro, syntax, notation, axiom, sorry.
-/
import Derived.Test.YtbfbebghhclmmaaGreatChecked
import GoSem.Claim
import GoSem.ClaimJoined
import GoSem.ClaimMapViews
import Derived.JoinedTies
import Derived.KernelRfl
namespace Go.Proofs.YtbfbebghhclmmaaGreat
/- THE CELL 'sum', in the pinned program and in every row, IS THE sha256 OF THE DUMP (.gsa) THAT YtbfbebghhclmmaaGreatProg.lean LOADS. Nothing in Lean hashes anything: it is a label: what it is worth is what the hold of that sum in a sandbox is worth. -/
noncomputable def Tryz.pinned : Pinned := { name := "ytbfbebghhclmmaagreat", sum := "e3385c7330c4d2d5f50ae0a89b9fe202291c02222049107d9a00445f66298c30", checked := Tryz.checked }
namespace Rows
def none {H : Type} : Left H := { results := [], args := [] }

/-- 'thicketlaw9.BinomialNumbers': WHATEVER THE INPUT: true; the input reads as it did. -/
def binomialNumbersSpec : ChangeSpec := { name := "binomialNumbers", fn := fun _ => fun
  | [] => { results := [.lit (.bool true)], args := [] }
  | _ => none }
def binomialNumbersRow : OpenClaim := { program := "ytbfbebghhclmmaagreat", sum := "e3385c7330c4d2d5f50ae0a89b9fe202291c02222049107d9a00445f66298c30", func := "thicket/thicketlaw9.BinomialNumbers", spec := "binomialNumbers", unfollowed := true, recurses := true, apart := false }
def BinomialNumbersSaid : Prop := binomialNumbersRow.holds Tryz.pinned (OpenSpec.ofChange binomialNumbersSpec)

/-- ITS FALSE NEIGHBOUR: 'it returns false'. Refute it at one input. -/
def binomialNumbersWrong : ChangeSpec := { name := "binomialNumbers", fn := fun _ => fun
  | [] => { results := [.lit (.bool false)], args := [] }
  | _ => none }
def BinomialNumbersWrongFalsely : Prop := binomialNumbersRow.holds Tryz.pinned (OpenSpec.ofChange binomialNumbersWrong)

/-- 'thicketlaw9.BinomialPlays': WHATEVER THE INPUT: true; the input reads as it did. -/
def binomialPlaysSpec : ChangeSpec := { name := "binomialPlays", fn := fun _ => fun
  | [d] => { results := [.lit (.bool true)], args := [d] }
  | _ => none }
def binomialPlaysRow : OpenClaim := { program := "ytbfbebghhclmmaagreat", sum := "e3385c7330c4d2d5f50ae0a89b9fe202291c02222049107d9a00445f66298c30", func := "thicket/thicketlaw9.BinomialPlays", spec := "binomialPlays", unfollowed := true, recurses := true, apart := false }
def BinomialPlaysSaid : Prop := binomialPlaysRow.holds Tryz.pinned (OpenSpec.ofChange binomialPlaysSpec)

/-- ITS FALSE NEIGHBOUR: 'it returns false'. Refute it at one input. -/
def binomialPlaysWrong : ChangeSpec := { name := "binomialPlays", fn := fun _ => fun
  | [d] => { results := [.lit (.bool false)], args := [d] }
  | _ => none }
def BinomialPlaysWrongFalsely : Prop := binomialPlaysRow.holds Tryz.pinned (OpenSpec.ofChange binomialPlaysWrong)

/-- 'thicketlaw9.BinomialFull': WHATEVER THE INPUT: true; the input reads as it did. -/
def binomialFullSpec : ChangeSpec := { name := "binomialFull", fn := fun _ => fun
  | [d1, d2] => { results := [.lit (.bool true)], args := [d1, d2] }
  | _ => none }
def binomialFullRow : OpenClaim := { program := "ytbfbebghhclmmaagreat", sum := "e3385c7330c4d2d5f50ae0a89b9fe202291c02222049107d9a00445f66298c30", func := "thicket/thicketlaw9.BinomialFull", spec := "binomialFull", unfollowed := true, recurses := true, apart := false }
def BinomialFullSaid : Prop := binomialFullRow.holds Tryz.pinned (OpenSpec.ofChange binomialFullSpec)

/-- ITS FALSE NEIGHBOUR: 'it returns false'. Refute it at one input. -/
def binomialFullWrong : ChangeSpec := { name := "binomialFull", fn := fun _ => fun
  | [d1, d2] => { results := [.lit (.bool false)], args := [d1, d2] }
  | _ => none }
def BinomialFullWrongFalsely : Prop := binomialFullRow.holds Tryz.pinned (OpenSpec.ofChange binomialFullWrong)

/-- 'thicketlaw9.BinomialSorts': WHATEVER THE INPUT: true; the input reads as it did. -/
def binomialSortsSpec : ChangeSpec := { name := "binomialSorts", fn := fun _ => fun
  | [d1, d2] => { results := [.lit (.bool true)], args := [d1, d2] }
  | _ => none }
def binomialSortsRow : OpenClaim := { program := "ytbfbebghhclmmaagreat", sum := "e3385c7330c4d2d5f50ae0a89b9fe202291c02222049107d9a00445f66298c30", func := "thicket/thicketlaw9.BinomialSorts", spec := "binomialSorts", unfollowed := true, recurses := true, apart := false }
def BinomialSortsSaid : Prop := binomialSortsRow.holds Tryz.pinned (OpenSpec.ofChange binomialSortsSpec)

/-- ITS FALSE NEIGHBOUR: 'it returns false'. Refute it at one input. -/
def binomialSortsWrong : ChangeSpec := { name := "binomialSorts", fn := fun _ => fun
  | [d1, d2] => { results := [.lit (.bool false)], args := [d1, d2] }
  | _ => none }
def BinomialSortsWrongFalsely : Prop := binomialSortsRow.holds Tryz.pinned (OpenSpec.ofChange binomialSortsWrong)

/-- 'thicketlaw9.BinomialDrops': WHATEVER THE INPUT: true; the input reads as it did. -/
def binomialDropsSpec : ChangeSpec := { name := "binomialDrops", fn := fun _ => fun
  | [d1, d2] => { results := [.lit (.bool true)], args := [d1, d2] }
  | _ => none }
def binomialDropsRow : OpenClaim := { program := "ytbfbebghhclmmaagreat", sum := "e3385c7330c4d2d5f50ae0a89b9fe202291c02222049107d9a00445f66298c30", func := "thicket/thicketlaw9.BinomialDrops", spec := "binomialDrops", unfollowed := true, recurses := true, apart := false }
def BinomialDropsSaid : Prop := binomialDropsRow.holds Tryz.pinned (OpenSpec.ofChange binomialDropsSpec)

/-- ITS FALSE NEIGHBOUR: 'it returns false'. Refute it at one input. -/
def binomialDropsWrong : ChangeSpec := { name := "binomialDrops", fn := fun _ => fun
  | [d1, d2] => { results := [.lit (.bool false)], args := [d1, d2] }
  | _ => none }
def BinomialDropsWrongFalsely : Prop := binomialDropsRow.holds Tryz.pinned (OpenSpec.ofChange binomialDropsWrong)

/- THE SECOND FORM. 'bulk': how many values and letters a reading holds, each counted each time it is reached (what is shared counts as often as it is met; a slice's spare places count too). A statement '..UptoSaid' is the law's where the arguments, and the package variables that the reading takes, are together of bulk at most 1048576: NARROWER than '..Said'. Prove '..Said' where nothing that the law and all that it calls make is longer than what came in: it says more and counts as full. Else prove '..UptoSaid'. A law counts once. -/
mutual
def uptoBulk {H : Type} : DataW H → Nat
  | .lit (.string bytes) => bytes.length + 1
  | .lit _ => 1
  | .nil => 1
  | .ptr d => uptoBulk d + 1
  | .slice elems spare => uptoBulkAll elems + uptoBulkAll spare + 1
  | .agg parts => uptoBulkAll parts + 1
  | .iface _ d => uptoBulk d + 1
  | .map entries => uptoBulkEntries entries + 1
  | .held _ => 1
def uptoBulkAll {H : Type} : List (DataW H) → Nat
  | [] => 0
  | d :: r => uptoBulk d + uptoBulkAll r
def uptoBulkEntries {H : Type} : List (Lit × DataW H) → Nat
  | [] => 0
  | x :: r => uptoBulkEntry x + uptoBulkEntries r
def uptoBulkEntry {H : Type} : Lit × DataW H → Nat
  | (.string bytes, d) => bytes.length + uptoBulk d + 1
  | (_, d) => uptoBulk d + 1
 end
def uptoSmall : (H : Type) → List (DataW H) → Bool := fun _ ds => decide (uptoBulkAll ds ≤ 1048576)
def OpenSpec.upto (s : _root_.Go.ChangeSpec) : _root_.Go.OpenSpec := { _root_.Go.OpenSpec.ofChange s with cond := some uptoSmall }

/-- 'thicketlaw9.BinomialNumbers', WHERE WHAT IT READS IS OF BULK AT MOST 1048576: true; the input reads as it did. -/
def binomialNumbersUptoRow : OpenClaim := { program := "ytbfbebghhclmmaagreat", sum := "e3385c7330c4d2d5f50ae0a89b9fe202291c02222049107d9a00445f66298c30", func := "thicket/thicketlaw9.BinomialNumbers", spec := "binomialNumbers", unfollowed := true, recurses := true, apart := false, narrowed := true }
def BinomialNumbersUptoSaid : Prop := binomialNumbersUptoRow.holds Tryz.pinned (OpenSpec.upto binomialNumbersSpec)

/-- 'thicketlaw9.BinomialPlays', WHERE WHAT IT READS IS OF BULK AT MOST 1048576: true; the input reads as it did. -/
def binomialPlaysUptoRow : OpenClaim := { program := "ytbfbebghhclmmaagreat", sum := "e3385c7330c4d2d5f50ae0a89b9fe202291c02222049107d9a00445f66298c30", func := "thicket/thicketlaw9.BinomialPlays", spec := "binomialPlays", unfollowed := true, recurses := true, apart := false, narrowed := true }
def BinomialPlaysUptoSaid : Prop := binomialPlaysUptoRow.holds Tryz.pinned (OpenSpec.upto binomialPlaysSpec)

/-- 'thicketlaw9.BinomialFull', WHERE WHAT IT READS IS OF BULK AT MOST 1048576: true; the input reads as it did. -/
def binomialFullUptoRow : OpenClaim := { program := "ytbfbebghhclmmaagreat", sum := "e3385c7330c4d2d5f50ae0a89b9fe202291c02222049107d9a00445f66298c30", func := "thicket/thicketlaw9.BinomialFull", spec := "binomialFull", unfollowed := true, recurses := true, apart := false, narrowed := true }
def BinomialFullUptoSaid : Prop := binomialFullUptoRow.holds Tryz.pinned (OpenSpec.upto binomialFullSpec)

/-- 'thicketlaw9.BinomialSorts', WHERE WHAT IT READS IS OF BULK AT MOST 1048576: true; the input reads as it did. -/
def binomialSortsUptoRow : OpenClaim := { program := "ytbfbebghhclmmaagreat", sum := "e3385c7330c4d2d5f50ae0a89b9fe202291c02222049107d9a00445f66298c30", func := "thicket/thicketlaw9.BinomialSorts", spec := "binomialSorts", unfollowed := true, recurses := true, apart := false, narrowed := true }
def BinomialSortsUptoSaid : Prop := binomialSortsUptoRow.holds Tryz.pinned (OpenSpec.upto binomialSortsSpec)

/-- 'thicketlaw9.BinomialDrops', WHERE WHAT IT READS IS OF BULK AT MOST 1048576: true; the input reads as it did. -/
def binomialDropsUptoRow : OpenClaim := { program := "ytbfbebghhclmmaagreat", sum := "e3385c7330c4d2d5f50ae0a89b9fe202291c02222049107d9a00445f66298c30", func := "thicket/thicketlaw9.BinomialDrops", spec := "binomialDrops", unfollowed := true, recurses := true, apart := false, narrowed := true }
def BinomialDropsUptoSaid : Prop := binomialDropsUptoRow.holds Tryz.pinned (OpenSpec.upto binomialDropsSpec)

end Rows
end Go.Proofs.YtbfbebghhclmmaaGreat
