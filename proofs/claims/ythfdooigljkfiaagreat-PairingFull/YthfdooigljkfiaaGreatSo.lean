/- slices.Sort at []int, of the library's own contract, at this program. -/
import Derived.Shelf.Sort.Plain
import Derived.Shelf.Slices.In.SortNone
import Derived.Sort.OwnSortedInts
import Derived.Test.YthfdooigljkfiaaGreatGb
namespace Go.Proofs.YthfdooigljkfiaaGreat
open Go.Shelf Go.Sort Go.RowKit Go.ChangeShapes Go.WideShapes Go.ChangeAt

def lays189_ren : Go.Shelf.Ren := ⟨fun | 189 => 72 | 125 => 84 | 257 => 83 | 128 => 97 | 129 => 98 | 294 => 88 | 295 => 89 | 296 => 90 | 297 => 91 | 298 => 92 | 299 => 93 | 216 => 94 | 300 => 95 | 301 => 96 | 328 => 101 | 329 => 102 | 330 => 103 | 331 => 104 | 332 => 105 | 215 => 106 | 343 => 108 | n => n, fun | 28 => 61 | 3 => 3 | 46 => 99 | 0 => 0 | 51 => 112 | 53 => 114 | 4 => 4 | 183 => 106 | 182 => 105 | 131 => 49 | 5 => 5 | 9 => 9 | 218 => 116 | 222 => 120 | 228 => 122 | 229 => 67 | n => n, fun | n => n⟩
theorem lays189 : Go.Proofs.Lays.n189 Tryz.prog lays189_ren := {
  mixed := by kernel_rfl
  f125 := Tryz.func84.trans (congrArg some (by kernel_rfl))
  f128 := Tryz.func97.trans (congrArg some (by kernel_rfl))
  f129 := Tryz.func98.trans (congrArg some (by kernel_rfl))
  f189 := Tryz.func72.trans (congrArg some (by kernel_rfl))
  f215 := Tryz.func106.trans (congrArg some (by kernel_rfl))
  f216 := Tryz.func94.trans (congrArg some (by kernel_rfl))
  f257 := Tryz.func83.trans (congrArg some (by kernel_rfl))
  f294 := Tryz.func88.trans (congrArg some (by kernel_rfl))
  f295 := Tryz.func89.trans (congrArg some (by kernel_rfl))
  f296 := Tryz.func90.trans (congrArg some (by kernel_rfl))
  f297 := Tryz.func91.trans (congrArg some (by kernel_rfl))
  f298 := Tryz.func92.trans (congrArg some (by kernel_rfl))
  f299 := Tryz.func93.trans (congrArg some (by kernel_rfl))
  f300 := Tryz.func95.trans (congrArg some (by kernel_rfl))
  f301 := Tryz.func96.trans (congrArg some (by kernel_rfl))
  f328 := Tryz.func101.trans (congrArg some (by kernel_rfl))
  f329 := Tryz.func102.trans (congrArg some (by kernel_rfl))
  f330 := Tryz.func103.trans (congrArg some (by kernel_rfl))
  f331 := Tryz.func104.trans (congrArg some (by kernel_rfl))
  f332 := Tryz.func105.trans (congrArg some (by kernel_rfl))
  f343 := Tryz.func108.trans (congrArg some (by kernel_rfl))
  t0 := Tryz.underlying0
  a0 := Tryz.isAgg0
  z0 := Tryz.sizeOf0
  v0 := Tryz.zeroValue0
  t3 := Tryz.underlying3
  a3 := Tryz.isAgg3
  z3 := Tryz.sizeOf3
  v3 := Tryz.zeroValue3
  t4 := Tryz.underlying4
  a4 := Tryz.isAgg4
  z4 := Tryz.sizeOf4
  v4 := Tryz.zeroValue4
  t5 := Tryz.underlying5
  a5 := Tryz.isAgg5
  z5 := Tryz.sizeOf5
  v5 := Tryz.zeroValue5
  t9 := Tryz.underlying9
  a9 := Tryz.isAgg9
  z9 := Tryz.sizeOf9
  v9 := Tryz.zeroValue9
  t28 := Tryz.underlying61
  a28 := Tryz.isAgg61
  z28 := Tryz.sizeOf61
  v28 := Tryz.zeroValue61
  t46 := Tryz.underlying99
  a46 := Tryz.isAgg99
  z46 := Tryz.sizeOf99
  v46 := Tryz.zeroValue99
  t51 := Tryz.underlying112
  a51 := Tryz.isAgg112
  z51 := Tryz.sizeOf112
  v51 := Tryz.zeroValue112
  t53 := Tryz.underlying114
  a53 := Tryz.isAgg114
  z53 := Tryz.sizeOf114
  v53 := Tryz.zeroValue114
  t131 := Tryz.underlying49
  a131 := Tryz.isAgg49
  z131 := Tryz.sizeOf49
  v131 := Tryz.zeroValue49
  t182 := Tryz.underlying105
  a182 := Tryz.isAgg105
  z182 := Tryz.sizeOf105
  v182 := Tryz.zeroValue105
  t183 := Tryz.underlying106
  a183 := Tryz.isAgg106
  z183 := Tryz.sizeOf106
  v183 := Tryz.zeroValue106
  t218 := Tryz.underlying116
  a218 := Tryz.isAgg116
  z218 := Tryz.sizeOf116
  v218 := Tryz.zeroValue116
  t222 := Tryz.underlying120
  a222 := Tryz.isAgg120
  z222 := Tryz.sizeOf120
  v222 := Tryz.zeroValue120
  t228 := Tryz.underlying122
  a228 := Tryz.isAgg122
  z228 := Tryz.sizeOf122
  v228 := Tryz.zeroValue122
  t229 := Tryz.underlying67
  a229 := Tryz.isAgg67
  z229 := Tryz.sizeOf67
  v229 := Tryz.zeroValue67 }

/-- nothing is sorted -/
theorem sort_none (p : Option Addr) (cap : Nat) (w : World) : Calls Tryz.prog 72 #[.slice p 0 cap] w fun e w' => e = .returned (.tuple #[]) ∧ w' = w := Any.slices_Sort_int_none lays189 p cap w
theorem sort_some (blk cap : Nat) (zs : List Int) (w : World) (hH : Holds (Value.int .i64) w blk 0 zs.toArray) (hblk : blk < w.heap.size) (hsz : zs.length < 4611686018427387904) :
    Calls Tryz.prog 72 #[.slice (some ⟨blk, 0, none⟩) zs.length cap] w fun e w' =>
      e = .returned (.tuple #[]) ∧ ∃ n os, w' = grow (putRow (Value.int .i64) (Sort.ahead w n) blk 0 (zs.mergeSort fun x y => decide (x ≤ y)).toArray) os := Any.slices_Sort_int lays189 blk 0 cap zs w hH hblk hsz

theorem row_ints (l : List Nat) : row nat1 l = (l.map fun x : Nat => (x : Int)).map (Value.int .i64) := by
  induction l with
  | nil => rfl
  | cons x r ih => simp only [row, List.map_cons, ih]; rfl
theorem sorted_nat (l : List Nat) : ∃ m : List Nat, m.Perm l ∧ m.Pairwise (fun a b => a ≤ b) ∧ ((l.map fun x : Nat => (x : Int)).mergeSort fun x y => decide (x ≤ y)) = m.map fun x : Nat => (x : Int) := by
  have hp := List.mergeSort_perm (l.map fun x : Nat => (x : Int)) (fun x y => decide (x ≤ y))
  have hs := List.pairwise_mergeSort (le := fun x y : Int => decide (x ≤ y)) (fun a b c h1 h2 => by simp at h1 h2 ⊢; omega) (fun a b => by simp; omega) (l.map fun x : Nat => (x : Int))
  generalize ((l.map fun x : Nat => (x : Int)).mergeSort fun x y => decide (x ≤ y)) = z at *
  have hz : ∀ y ∈ z, 0 ≤ y := fun y hy => by
    have := hp.mem_iff.1 hy
    rw [List.mem_map] at this
    obtain ⟨x, _, rfl⟩ := this
    omega
  have e : z = (z.map Int.toNat).map fun x : Nat => (x : Int) := by
    rw [List.map_map]
    refine (List.map_id z).symm.trans (List.map_congr_left fun y hy => ?_)
    have := hz y hy
    simp; omega
  refine ⟨z.map Int.toNat, ?_, ?_, e⟩
  · have := hp.map Int.toNat
    rw [List.map_map] at this
    refine this.trans (List.Perm.of_eq ?_)
    refine (List.map_congr_left fun y _ => ?_).trans (List.map_id l)
    simp
  · rw [List.pairwise_map]
    exact hs.imp fun h => by simp at h; omega

/-- a list of the call's own, sorted -/
theorem sortN (v : Value) (l : List Nat) (w : World) (base : Nat) (h : w.ownsRow base 3 1 v l.length (row nat1 l)) (hl : l.length ≤ 1000000) :
    Calls Tryz.prog 72 #[v] w fun e w' => e = .returned (.tuple #[]) ∧ ∃ m : List Nat, m.Perm l ∧ m.Pairwise (fun a b => a ≤ b) ∧ w'.ownsRow base 3 1 v m.length (row nat1 m) ∧ Kept (fun k => v.ownBlock = some k) w w' := by
  rcases h.2 with ⟨rfl, h0⟩ | ⟨g, cap, cur, rfl, hb, hg, h1, h2, h3, h4⟩
  · have : l = [] := List.eq_nil_of_length_eq_zero h0
    subst this
    refine (sort_none _ _ _).mono ?_
    rintro e w' ⟨rfl, rfl⟩
    exact ⟨rfl, [], .nil, .nil, h, Kept.refl _ _⟩
  · have h4' : cur.toList.take (l.map fun x : Nat => (x : Int)).length = (l.map fun x : Nat => (x : Int)).map (Value.int .i64) := by
      rw [List.length_map, ← row_ints]; simpa using h4
    have e1 : (l.map fun x : Nat => (x : Int)).length = l.length := List.length_map _
    have S := sort_some g cap (l.map fun x : Nat => (x : Int)) w (holds_of_blockI hg h4') (lt_of_block hg) (by rw [e1]; omega)
    rw [e1] at S
    refine S.mono ?_
    rintro e w' ⟨rfl, n, os, rfl⟩
    obtain ⟨m, p1, p2, p3⟩ := sorted_nat l
    refine ⟨rfl, m, p1, p2, ?_, ?_⟩
    · rw [p3]
      have := ownsRow_sortedI (w := w) (base := base) (g := g) (cap := cap) (n := n) (e := 3) (os := os) (cur := cur) (ss := l.map fun x : Nat => (x : Int)) (ts := m.map fun x : Nat => (x : Int)) (by simp [p1.length_eq]) hb hg (by simpa using h1) h2 h3
      rw [row_ints, p1.length_eq]
      simpa using this
    · have q := grownBy_sortedI (w := w) (g := g) (n := n) (os := os) ((l.map fun x : Nat => (x : Int)).mergeSort fun x y => decide (x ≤ y)).toArray
      exact ⟨q.os, q.tape, q.output, q.size, fun k hk hn => q.block k hk fun e => hn (by rw [e]; rfl)⟩
end Go.Proofs.YthfdooigljkfiaaGreat
