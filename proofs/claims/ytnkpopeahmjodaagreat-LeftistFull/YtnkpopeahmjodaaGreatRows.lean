/-
  No cell of these rows narrows 'for every input' (looked for: loops, veiled, ifaces, maps, wideKeys, modest, calm, conditions, laid).
  DERIVED. THE GIVEN ROWS OF THIS SEAT. 3 by the template 'for every input the law returns true; each argument reads behind the call as it read before'; 0 by the template 'total and deterministic' (their statements: YtnkpopeahmjodaaGreatTotals.lean).
  GIVEN WITH THE SEED: the statements are not yours to turn. If you find one false, say at which input.
  Laid BY PROGRAM, IN A SANDBOX (cutbox-rows.mjs): the forced cells as the released guide's own fill.sh prints them over the translation d9b3bf0d955a3512… (all of the seat's roots in one cut). By AI agents, Wed Nov 11 2026. No macro, syntax, notation, axiom, sorry.
-/
import Derived.Test.YtnkpopeahmjodaaGreatChecked
import GoSem.Claim
import GoSem.ClaimJoined
import GoSem.ClaimMapViews
import Derived.JoinedTies
import Derived.KernelRfl
namespace Go.Proofs.YtnkpopeahmjodaaGreat
/- THE CELL 'sum', in the pinned program and in every row, IS THE sha256 OF THE DUMP (.gsa) THAT YtnkpopeahmjodaaGreatProg.lean LOADS. Nothing in Lean hashes anything: it is a label: what it is worth is what the hold of that sum in a sandbox is worth. -/
noncomputable def Tryz.pinned : Pinned := { name := "ytnkpopeahmjodaagreat", sum := "d9b3bf0d955a3512ca9d363895951798837f24f3677fdd1e434bfeff79f9c3d7", checked := Tryz.checked }
namespace Rows
def none {H : Type} : Left H := { results := [], args := [] }

/-- 'thicketlaw8.LeftistPlays': WHATEVER THE INPUT: true; the input reads as it did. -/
def leftistPlaysSpec : ChangeSpec := { name := "leftistPlays", fn := fun _ => fun
  | [d] => { results := [.lit (.bool true)], args := [d] }
  | _ => none }
def leftistPlaysRow : OpenClaim := { program := "ytnkpopeahmjodaagreat", sum := "d9b3bf0d955a3512ca9d363895951798837f24f3677fdd1e434bfeff79f9c3d7", func := "thicket/thicketlaw8.LeftistPlays", spec := "leftistPlays", recurses := true, apart := false }
def LeftistPlaysSaid : Prop := leftistPlaysRow.holds Tryz.pinned (OpenSpec.ofChange leftistPlaysSpec)

/-- ITS FALSE NEIGHBOUR: 'it returns false'. Refute it at one input. -/
def leftistPlaysWrong : ChangeSpec := { name := "leftistPlays", fn := fun _ => fun
  | [d] => { results := [.lit (.bool false)], args := [d] }
  | _ => none }
def LeftistPlaysWrongFalsely : Prop := leftistPlaysRow.holds Tryz.pinned (OpenSpec.ofChange leftistPlaysWrong)

/-- 'thicketlaw8.LeftistFull': WHATEVER THE INPUT: true; the input reads as it did. -/
def leftistFullSpec : ChangeSpec := { name := "leftistFull", fn := fun _ => fun
  | [d1, d2] => { results := [.lit (.bool true)], args := [d1, d2] }
  | _ => none }
def leftistFullRow : OpenClaim := { program := "ytnkpopeahmjodaagreat", sum := "d9b3bf0d955a3512ca9d363895951798837f24f3677fdd1e434bfeff79f9c3d7", func := "thicket/thicketlaw8.LeftistFull", spec := "leftistFull", recurses := true, apart := false }
def LeftistFullSaid : Prop := leftistFullRow.holds Tryz.pinned (OpenSpec.ofChange leftistFullSpec)

/-- ITS FALSE NEIGHBOUR: 'it returns false'. Refute it at one input. -/
def leftistFullWrong : ChangeSpec := { name := "leftistFull", fn := fun _ => fun
  | [d1, d2] => { results := [.lit (.bool false)], args := [d1, d2] }
  | _ => none }
def LeftistFullWrongFalsely : Prop := leftistFullRow.holds Tryz.pinned (OpenSpec.ofChange leftistFullWrong)

/-- 'thicketlaw8.LeftistDrops': WHATEVER THE INPUT: true; the input reads as it did. -/
def leftistDropsSpec : ChangeSpec := { name := "leftistDrops", fn := fun _ => fun
  | [d1, d2] => { results := [.lit (.bool true)], args := [d1, d2] }
  | _ => none }
def leftistDropsRow : OpenClaim := { program := "ytnkpopeahmjodaagreat", sum := "d9b3bf0d955a3512ca9d363895951798837f24f3677fdd1e434bfeff79f9c3d7", func := "thicket/thicketlaw8.LeftistDrops", spec := "leftistDrops", recurses := true, apart := false }
def LeftistDropsSaid : Prop := leftistDropsRow.holds Tryz.pinned (OpenSpec.ofChange leftistDropsSpec)

/-- ITS FALSE NEIGHBOUR: 'it returns false'. Refute it at one input. -/
def leftistDropsWrong : ChangeSpec := { name := "leftistDrops", fn := fun _ => fun
  | [d1, d2] => { results := [.lit (.bool false)], args := [d1, d2] }
  | _ => none }
def LeftistDropsWrongFalsely : Prop := leftistDropsRow.holds Tryz.pinned (OpenSpec.ofChange leftistDropsWrong)

/- THE SECOND FORM. 'bulk': how many values and letters a reading holds, each counted each time it is reached (what is shared counts as often as it is met; a slice's spare places count too). A statement '..UptoSaid' is the law's where the arguments, and the package variables that the reading takes, are together of bulk at most 1048576: NARROWER than '..Said'. Prove '..Said' where nothing that the law and all that it calls make is longer than what came in: it says more and counts as full. Else prove '..UptoSaid'. A law counts once. -/
mutual
def uptoBulk {H : Type} : DataW H → Nat
  | .lit (.string bytes) => bytes.length + 1
  | .lit _ => 1
  | .nil => 1
  | .ptr d => uptoBulk d + 1
  | .slice elems spare => uptoBulkAll elems + uptoBulkAll spare + 1
  | .agg parts => uptoBulkAll parts + 1
  | .iface _ d => uptoBulk d + 1
  | .map entries => uptoBulkEntries entries + 1
  | .held _ => 1
def uptoBulkAll {H : Type} : List (DataW H) → Nat
  | [] => 0
  | d :: r => uptoBulk d + uptoBulkAll r
def uptoBulkEntries {H : Type} : List (Lit × DataW H) → Nat
  | [] => 0
  | x :: r => uptoBulkEntry x + uptoBulkEntries r
def uptoBulkEntry {H : Type} : Lit × DataW H → Nat
  | (.string bytes, d) => bytes.length + uptoBulk d + 1
  | (_, d) => uptoBulk d + 1
 end
def uptoSmall : (H : Type) → List (DataW H) → Bool := fun _ ds => decide (uptoBulkAll ds ≤ 1048576)
def OpenSpec.upto (s : _root_.Go.ChangeSpec) : _root_.Go.OpenSpec := { _root_.Go.OpenSpec.ofChange s with cond := some uptoSmall }

/-- 'thicketlaw8.LeftistPlays', WHERE WHAT IT READS IS OF BULK AT MOST 1048576: true; the input reads as it did. -/
def leftistPlaysUptoRow : OpenClaim := { program := "ytnkpopeahmjodaagreat", sum := "d9b3bf0d955a3512ca9d363895951798837f24f3677fdd1e434bfeff79f9c3d7", func := "thicket/thicketlaw8.LeftistPlays", spec := "leftistPlays", recurses := true, apart := false, narrowed := true }
def LeftistPlaysUptoSaid : Prop := leftistPlaysUptoRow.holds Tryz.pinned (OpenSpec.upto leftistPlaysSpec)

/-- 'thicketlaw8.LeftistFull', WHERE WHAT IT READS IS OF BULK AT MOST 1048576: true; the input reads as it did. -/
def leftistFullUptoRow : OpenClaim := { program := "ytnkpopeahmjodaagreat", sum := "d9b3bf0d955a3512ca9d363895951798837f24f3677fdd1e434bfeff79f9c3d7", func := "thicket/thicketlaw8.LeftistFull", spec := "leftistFull", recurses := true, apart := false, narrowed := true }
def LeftistFullUptoSaid : Prop := leftistFullUptoRow.holds Tryz.pinned (OpenSpec.upto leftistFullSpec)

/-- 'thicketlaw8.LeftistDrops', WHERE WHAT IT READS IS OF BULK AT MOST 1048576: true; the input reads as it did. -/
def leftistDropsUptoRow : OpenClaim := { program := "ytnkpopeahmjodaagreat", sum := "d9b3bf0d955a3512ca9d363895951798837f24f3677fdd1e434bfeff79f9c3d7", func := "thicket/thicketlaw8.LeftistDrops", spec := "leftistDrops", recurses := true, apart := false, narrowed := true }
def LeftistDropsUptoSaid : Prop := leftistDropsUptoRow.holds Tryz.pinned (OpenSpec.upto leftistDropsSpec)

end Rows
end Go.Proofs.YtnkpopeahmjodaaGreat
