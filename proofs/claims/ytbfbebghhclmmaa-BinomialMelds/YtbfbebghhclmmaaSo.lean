/- slices.Sort at []int, of the library's own contract, at this program. -/
import Derived.Shelf.Sort.Plain
import Derived.Shelf.Slices.In.SortNone
import Derived.Sort.OwnSortedInts
import Derived.Test.YtbfbebghhclmmaaGb
namespace Go.Proofs.Ytbfbebghhclmmaa
open Go.Shelf Go.Sort Go.RowKit Go.ChangeShapes Go.WideShapes Go.ChangeAt

def lays189_ren : Go.Shelf.Ren := ⟨fun | 189 => 64 | 125 => 76 | 257 => 75 | 128 => 92 | 129 => 93 | 294 => 83 | 295 => 84 | 296 => 85 | 297 => 86 | 298 => 87 | 299 => 88 | 216 => 89 | 300 => 90 | 301 => 91 | 328 => 95 | 329 => 96 | 330 => 97 | 331 => 98 | 332 => 99 | 215 => 100 | 343 => 101 | n => n, fun | 28 => 56 | 3 => 3 | 46 => 75 | 0 => 0 | 51 => 104 | 53 => 107 | 4 => 4 | 183 => 113 | 182 => 112 | 131 => 40 | 5 => 5 | 9 => 9 | 218 => 120 | 222 => 124 | 228 => 126 | 229 => 50 | n => n, fun | n => n⟩
theorem lays189 : Go.Proofs.Lays.n189 Try.prog lays189_ren := {
  mixed := by kernel_rfl
  f125 := Try.func76.trans (congrArg some (by kernel_rfl))
  f128 := Try.func92.trans (congrArg some (by kernel_rfl))
  f129 := Try.func93.trans (congrArg some (by kernel_rfl))
  f189 := Try.func64.trans (congrArg some (by kernel_rfl))
  f215 := Try.func100.trans (congrArg some (by kernel_rfl))
  f216 := Try.func89.trans (congrArg some (by kernel_rfl))
  f257 := Try.func75.trans (congrArg some (by kernel_rfl))
  f294 := Try.func83.trans (congrArg some (by kernel_rfl))
  f295 := Try.func84.trans (congrArg some (by kernel_rfl))
  f296 := Try.func85.trans (congrArg some (by kernel_rfl))
  f297 := Try.func86.trans (congrArg some (by kernel_rfl))
  f298 := Try.func87.trans (congrArg some (by kernel_rfl))
  f299 := Try.func88.trans (congrArg some (by kernel_rfl))
  f300 := Try.func90.trans (congrArg some (by kernel_rfl))
  f301 := Try.func91.trans (congrArg some (by kernel_rfl))
  f328 := Try.func95.trans (congrArg some (by kernel_rfl))
  f329 := Try.func96.trans (congrArg some (by kernel_rfl))
  f330 := Try.func97.trans (congrArg some (by kernel_rfl))
  f331 := Try.func98.trans (congrArg some (by kernel_rfl))
  f332 := Try.func99.trans (congrArg some (by kernel_rfl))
  f343 := Try.func101.trans (congrArg some (by kernel_rfl))
  t0 := Try.underlying0
  a0 := Try.isAgg0
  z0 := Try.sizeOf0
  v0 := Try.zeroValue0
  t3 := Try.underlying3
  a3 := Try.isAgg3
  z3 := Try.sizeOf3
  v3 := Try.zeroValue3
  t4 := Try.underlying4
  a4 := Try.isAgg4
  z4 := Try.sizeOf4
  v4 := Try.zeroValue4
  t5 := Try.underlying5
  a5 := Try.isAgg5
  z5 := Try.sizeOf5
  v5 := Try.zeroValue5
  t9 := Try.underlying9
  a9 := Try.isAgg9
  z9 := Try.sizeOf9
  v9 := Try.zeroValue9
  t28 := Try.underlying56
  a28 := Try.isAgg56
  z28 := Try.sizeOf56
  v28 := Try.zeroValue56
  t46 := Try.underlying75
  a46 := Try.isAgg75
  z46 := Try.sizeOf75
  v46 := Try.zeroValue75
  t51 := Try.underlying104
  a51 := Try.isAgg104
  z51 := Try.sizeOf104
  v51 := Try.zeroValue104
  t53 := Try.underlying107
  a53 := Try.isAgg107
  z53 := Try.sizeOf107
  v53 := Try.zeroValue107
  t131 := Try.underlying40
  a131 := Try.isAgg40
  z131 := Try.sizeOf40
  v131 := Try.zeroValue40
  t182 := Try.underlying112
  a182 := Try.isAgg112
  z182 := Try.sizeOf112
  v182 := Try.zeroValue112
  t183 := Try.underlying113
  a183 := Try.isAgg113
  z183 := Try.sizeOf113
  v183 := Try.zeroValue113
  t218 := Try.underlying120
  a218 := Try.isAgg120
  z218 := Try.sizeOf120
  v218 := Try.zeroValue120
  t222 := Try.underlying124
  a222 := Try.isAgg124
  z222 := Try.sizeOf124
  v222 := Try.zeroValue124
  t228 := Try.underlying126
  a228 := Try.isAgg126
  z228 := Try.sizeOf126
  v228 := Try.zeroValue126
  t229 := Try.underlying50
  a229 := Try.isAgg50
  z229 := Try.sizeOf50
  v229 := Try.zeroValue50 }

/-- nothing is sorted -/
theorem sort_none (p : Option Addr) (cap : Nat) (w : World) : Calls Try.prog 64 #[.slice p 0 cap] w fun e w' => e = .returned (.tuple #[]) ∧ w' = w := Any.slices_Sort_int_none lays189 p cap w
theorem sort_some (blk cap : Nat) (zs : List Int) (w : World) (hH : Holds (Value.int .i64) w blk 0 zs.toArray) (hblk : blk < w.heap.size) (hsz : zs.length < 4611686018427387904) :
    Calls Try.prog 64 #[.slice (some ⟨blk, 0, none⟩) zs.length cap] w fun e w' =>
      e = .returned (.tuple #[]) ∧ ∃ n os, w' = grow (putRow (Value.int .i64) (Sort.ahead w n) blk 0 (zs.mergeSort fun x y => decide (x ≤ y)).toArray) os := Any.slices_Sort_int lays189 blk 0 cap zs w hH hblk hsz

theorem row_ints (l : List Nat) : row nat1 l = (l.map fun x : Nat => (x : Int)).map (Value.int .i64) := by
  induction l with
  | nil => rfl
  | cons x r ih => simp only [row, List.map_cons, ih]; rfl
theorem sorted_nat (l : List Nat) : ∃ m : List Nat, m.Perm l ∧ m.Pairwise (fun a b => a ≤ b) ∧ ((l.map fun x : Nat => (x : Int)).mergeSort fun x y => decide (x ≤ y)) = m.map fun x : Nat => (x : Int) := by
  have hp := List.mergeSort_perm (l.map fun x : Nat => (x : Int)) (fun x y => decide (x ≤ y))
  have hs := List.pairwise_mergeSort (le := fun x y : Int => decide (x ≤ y)) (fun a b c h1 h2 => by simp at h1 h2 ⊢; omega) (fun a b => by simp; omega) (l.map fun x : Nat => (x : Int))
  generalize ((l.map fun x : Nat => (x : Int)).mergeSort fun x y => decide (x ≤ y)) = z at *
  have hz : ∀ y ∈ z, 0 ≤ y := fun y hy => by
    have := hp.mem_iff.1 hy
    rw [List.mem_map] at this
    obtain ⟨x, _, rfl⟩ := this
    omega
  have e : z = (z.map Int.toNat).map fun x : Nat => (x : Int) := by
    rw [List.map_map]
    refine (List.map_id z).symm.trans (List.map_congr_left fun y hy => ?_)
    have := hz y hy
    simp; omega
  refine ⟨z.map Int.toNat, ?_, ?_, e⟩
  · have := hp.map Int.toNat
    rw [List.map_map] at this
    refine this.trans (List.Perm.of_eq ?_)
    refine (List.map_congr_left fun y _ => ?_).trans (List.map_id l)
    simp
  · rw [List.pairwise_map]
    exact hs.imp fun h => by simp at h; omega

/-- a list of the call's own, sorted -/
theorem sortN (v : Value) (l : List Nat) (w : World) (base : Nat) (h : w.ownsRow base 3 1 v l.length (row nat1 l)) (hl : l.length ≤ 1000000) :
    Calls Try.prog 64 #[v] w fun e w' => e = .returned (.tuple #[]) ∧ ∃ m : List Nat, m.Perm l ∧ m.Pairwise (fun a b => a ≤ b) ∧ w'.ownsRow base 3 1 v m.length (row nat1 m) ∧ Kept (fun k => v.ownBlock = some k) w w' := by
  rcases h.2 with ⟨rfl, h0⟩ | ⟨g, cap, cur, rfl, hb, hg, h1, h2, h3, h4⟩
  · have : l = [] := List.eq_nil_of_length_eq_zero h0
    subst this
    refine (sort_none _ _ _).mono ?_
    rintro e w' ⟨rfl, rfl⟩
    exact ⟨rfl, [], .nil, .nil, h, Kept.refl _ _⟩
  · have h4' : cur.toList.take (l.map fun x : Nat => (x : Int)).length = (l.map fun x : Nat => (x : Int)).map (Value.int .i64) := by
      rw [List.length_map, ← row_ints]; simpa using h4
    have e1 : (l.map fun x : Nat => (x : Int)).length = l.length := List.length_map _
    have S := sort_some g cap (l.map fun x : Nat => (x : Int)) w (holds_of_blockI hg h4') (lt_of_block hg) (by rw [e1]; omega)
    rw [e1] at S
    refine S.mono ?_
    rintro e w' ⟨rfl, n, os, rfl⟩
    obtain ⟨m, p1, p2, p3⟩ := sorted_nat l
    refine ⟨rfl, m, p1, p2, ?_, ?_⟩
    · rw [p3]
      have := ownsRow_sortedI (w := w) (base := base) (g := g) (cap := cap) (n := n) (e := 3) (os := os) (cur := cur) (ss := l.map fun x : Nat => (x : Int)) (ts := m.map fun x : Nat => (x : Int)) (by simp [p1.length_eq]) hb hg (by simpa using h1) h2 h3
      rw [row_ints, p1.length_eq]
      simpa using this
    · have q := grownBy_sortedI (w := w) (g := g) (n := n) (os := os) ((l.map fun x : Nat => (x : Int)).mergeSort fun x y => decide (x ≤ y)).toArray
      exact ⟨q.os, q.tape, q.output, q.size, fun k hk hn => q.block k hk fun e => hn (by rw [e]; rfl)⟩
end Go.Proofs.Ytbfbebghhclmmaa
