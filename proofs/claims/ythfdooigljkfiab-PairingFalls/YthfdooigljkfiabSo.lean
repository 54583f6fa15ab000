/- slices.Sort at []int, of the library's own contract, at this program. -/
import Derived.Shelf.Sort.Plain
import Derived.Shelf.Slices.In.SortNone
import Derived.Sort.OwnSortedInts
import Derived.Test.YthfdooigljkfiabGb
namespace Go.Proofs.Ythfdooigljkfiab
open Go.Shelf Go.Sort Go.RowKit Go.ChangeShapes Go.WideShapes Go.ChangeAt

def lays189_ren : Go.Shelf.Ren := ⟨fun | 189 => 68 | 125 => 77 | 257 => 76 | 128 => 89 | 129 => 90 | 294 => 80 | 295 => 81 | 296 => 82 | 297 => 83 | 298 => 84 | 299 => 85 | 216 => 86 | 300 => 87 | 301 => 88 | 328 => 92 | 329 => 93 | 330 => 94 | 331 => 95 | 332 => 96 | 215 => 97 | 343 => 99 | n => n, fun | 28 => 23 | 3 => 3 | 46 => 97 | 0 => 0 | 51 => 106 | 53 => 108 | 4 => 4 | 183 => 100 | 182 => 99 | 131 => 44 | 5 => 5 | 9 => 9 | 218 => 110 | 222 => 114 | 228 => 116 | 229 => 51 | n => n, fun | n => n⟩
theorem lays189 : Go.Proofs.Lays.n189 Try.prog lays189_ren := {
  mixed := by kernel_rfl
  f125 := Try.func77.trans (congrArg some (by kernel_rfl))
  f128 := Try.func89.trans (congrArg some (by kernel_rfl))
  f129 := Try.func90.trans (congrArg some (by kernel_rfl))
  f189 := Try.func68.trans (congrArg some (by kernel_rfl))
  f215 := Try.func97.trans (congrArg some (by kernel_rfl))
  f216 := Try.func86.trans (congrArg some (by kernel_rfl))
  f257 := Try.func76.trans (congrArg some (by kernel_rfl))
  f294 := Try.func80.trans (congrArg some (by kernel_rfl))
  f295 := Try.func81.trans (congrArg some (by kernel_rfl))
  f296 := Try.func82.trans (congrArg some (by kernel_rfl))
  f297 := Try.func83.trans (congrArg some (by kernel_rfl))
  f298 := Try.func84.trans (congrArg some (by kernel_rfl))
  f299 := Try.func85.trans (congrArg some (by kernel_rfl))
  f300 := Try.func87.trans (congrArg some (by kernel_rfl))
  f301 := Try.func88.trans (congrArg some (by kernel_rfl))
  f328 := Try.func92.trans (congrArg some (by kernel_rfl))
  f329 := Try.func93.trans (congrArg some (by kernel_rfl))
  f330 := Try.func94.trans (congrArg some (by kernel_rfl))
  f331 := Try.func95.trans (congrArg some (by kernel_rfl))
  f332 := Try.func96.trans (congrArg some (by kernel_rfl))
  f343 := Try.func99.trans (congrArg some (by kernel_rfl))
  t0 := Try.underlying0
  a0 := Try.isAgg0
  z0 := Try.sizeOf0
  v0 := Try.zeroValue0
  t3 := Try.underlying3
  a3 := Try.isAgg3
  z3 := Try.sizeOf3
  v3 := Try.zeroValue3
  t4 := Try.underlying4
  a4 := Try.isAgg4
  z4 := Try.sizeOf4
  v4 := Try.zeroValue4
  t5 := Try.underlying5
  a5 := Try.isAgg5
  z5 := Try.sizeOf5
  v5 := Try.zeroValue5
  t9 := Try.underlying9
  a9 := Try.isAgg9
  z9 := Try.sizeOf9
  v9 := Try.zeroValue9
  t28 := Try.underlying23
  a28 := Try.isAgg23
  z28 := Try.sizeOf23
  v28 := Try.zeroValue23
  t46 := Try.underlying97
  a46 := Try.isAgg97
  z46 := Try.sizeOf97
  v46 := Try.zeroValue97
  t51 := Try.underlying106
  a51 := Try.isAgg106
  z51 := Try.sizeOf106
  v51 := Try.zeroValue106
  t53 := Try.underlying108
  a53 := Try.isAgg108
  z53 := Try.sizeOf108
  v53 := Try.zeroValue108
  t131 := Try.underlying44
  a131 := Try.isAgg44
  z131 := Try.sizeOf44
  v131 := Try.zeroValue44
  t182 := Try.underlying99
  a182 := Try.isAgg99
  z182 := Try.sizeOf99
  v182 := Try.zeroValue99
  t183 := Try.underlying100
  a183 := Try.isAgg100
  z183 := Try.sizeOf100
  v183 := Try.zeroValue100
  t218 := Try.underlying110
  a218 := Try.isAgg110
  z218 := Try.sizeOf110
  v218 := Try.zeroValue110
  t222 := Try.underlying114
  a222 := Try.isAgg114
  z222 := Try.sizeOf114
  v222 := Try.zeroValue114
  t228 := Try.underlying116
  a228 := Try.isAgg116
  z228 := Try.sizeOf116
  v228 := Try.zeroValue116
  t229 := Try.underlying51
  a229 := Try.isAgg51
  z229 := Try.sizeOf51
  v229 := Try.zeroValue51 }

/-- nothing is sorted -/
theorem sort_none (p : Option Addr) (cap : Nat) (w : World) : Calls Try.prog 68 #[.slice p 0 cap] w fun e w' => e = .returned (.tuple #[]) ∧ w' = w := Any.slices_Sort_int_none lays189 p cap w
theorem sort_some (blk cap : Nat) (zs : List Int) (w : World) (hH : Holds (Value.int .i64) w blk 0 zs.toArray) (hblk : blk < w.heap.size) (hsz : zs.length < 4611686018427387904) :
    Calls Try.prog 68 #[.slice (some ⟨blk, 0, none⟩) zs.length cap] w fun e w' =>
      e = .returned (.tuple #[]) ∧ ∃ n os, w' = grow (putRow (Value.int .i64) (Sort.ahead w n) blk 0 (zs.mergeSort fun x y => decide (x ≤ y)).toArray) os := Any.slices_Sort_int lays189 blk 0 cap zs w hH hblk hsz

theorem row_ints (l : List Nat) : row nat1 l = (l.map fun x : Nat => (x : Int)).map (Value.int .i64) := by
  induction l with
  | nil => rfl
  | cons x r ih => simp only [row, List.map_cons, ih]; rfl
theorem sorted_nat (l : List Nat) : ∃ m : List Nat, m.Perm l ∧ m.Pairwise (fun a b => a ≤ b) ∧ ((l.map fun x : Nat => (x : Int)).mergeSort fun x y => decide (x ≤ y)) = m.map fun x : Nat => (x : Int) := by
  have hp := List.mergeSort_perm (l.map fun x : Nat => (x : Int)) (fun x y => decide (x ≤ y))
  have hs := List.pairwise_mergeSort (le := fun x y : Int => decide (x ≤ y)) (fun a b c h1 h2 => by simp at h1 h2 ⊢; omega) (fun a b => by simp; omega) (l.map fun x : Nat => (x : Int))
  generalize ((l.map fun x : Nat => (x : Int)).mergeSort fun x y => decide (x ≤ y)) = z at *
  have hz : ∀ y ∈ z, 0 ≤ y := fun y hy => by
    have := hp.mem_iff.1 hy
    rw [List.mem_map] at this
    obtain ⟨x, _, rfl⟩ := this
    omega
  have e : z = (z.map Int.toNat).map fun x : Nat => (x : Int) := by
    rw [List.map_map]
    refine (List.map_id z).symm.trans (List.map_congr_left fun y hy => ?_)
    have := hz y hy
    simp; omega
  refine ⟨z.map Int.toNat, ?_, ?_, e⟩
  · have := hp.map Int.toNat
    rw [List.map_map] at this
    refine this.trans (List.Perm.of_eq ?_)
    refine (List.map_congr_left fun y _ => ?_).trans (List.map_id l)
    simp
  · rw [List.pairwise_map]
    exact hs.imp fun h => by simp at h; omega

/-- a list of the call's own, sorted -/
theorem sortN (v : Value) (l : List Nat) (w : World) (base : Nat) (h : w.ownsRow base 3 1 v l.length (row nat1 l)) (hl : l.length ≤ 1000000) :
    Calls Try.prog 68 #[v] w fun e w' => e = .returned (.tuple #[]) ∧ ∃ m : List Nat, m.Perm l ∧ m.Pairwise (fun a b => a ≤ b) ∧ w'.ownsRow base 3 1 v m.length (row nat1 m) ∧ Kept (fun k => v.ownBlock = some k) w w' := by
  rcases h.2 with ⟨rfl, h0⟩ | ⟨g, cap, cur, rfl, hb, hg, h1, h2, h3, h4⟩
  · have : l = [] := List.eq_nil_of_length_eq_zero h0
    subst this
    refine (sort_none _ _ _).mono ?_
    rintro e w' ⟨rfl, rfl⟩
    exact ⟨rfl, [], .nil, .nil, h, Kept.refl _ _⟩
  · have h4' : cur.toList.take (l.map fun x : Nat => (x : Int)).length = (l.map fun x : Nat => (x : Int)).map (Value.int .i64) := by
      rw [List.length_map, ← row_ints]; simpa using h4
    have e1 : (l.map fun x : Nat => (x : Int)).length = l.length := List.length_map _
    have S := sort_some g cap (l.map fun x : Nat => (x : Int)) w (holds_of_blockI hg h4') (lt_of_block hg) (by rw [e1]; omega)
    rw [e1] at S
    refine S.mono ?_
    rintro e w' ⟨rfl, n, os, rfl⟩
    obtain ⟨m, p1, p2, p3⟩ := sorted_nat l
    refine ⟨rfl, m, p1, p2, ?_, ?_⟩
    · rw [p3]
      have := ownsRow_sortedI (w := w) (base := base) (g := g) (cap := cap) (n := n) (e := 3) (os := os) (cur := cur) (ss := l.map fun x : Nat => (x : Int)) (ts := m.map fun x : Nat => (x : Int)) (by simp [p1.length_eq]) hb hg (by simpa using h1) h2 h3
      rw [row_ints, p1.length_eq]
      simpa using this
    · have q := grownBy_sortedI (w := w) (g := g) (n := n) (os := os) ((l.map fun x : Nat => (x : Int)).mergeSort fun x y => decide (x ≤ y)).toArray
      exact ⟨q.os, q.tape, q.output, q.size, fun k hk hn => q.block k hk fun e => hn (by rw [e]; rfl)⟩
end Go.Proofs.Ythfdooigljkfiab
