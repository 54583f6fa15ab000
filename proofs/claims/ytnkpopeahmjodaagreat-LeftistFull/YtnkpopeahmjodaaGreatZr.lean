/- Ten zeros appended to a row of numbers: append(l, make([]int64, 10)...). -/
import Derived.Test.YtnkpopeahmjodaaGreatGt
import Derived.Lib.AppendZerosOnto
namespace Go.Proofs.YtnkpopeahmjodaaGreat
open Go.ChangeShapes Go.WideShapes Go.ChangeAt Go.RowKit

theorem info2 : (Tryz.prog.info? 2).map (fun i => (i.zero, i.size, i.bytes)) = some (some (.int .i64 0), 1, 8) := by kernel_rfl
/-- a cell that has nothing yet -/
def cl0 : ((Nat → Int) × Bool) := (fun _ => 0, false)
theorem zero10 : (Builtin.zeroCells #[.int .i64 0] 10).toList = ten cl0 := by kernel_rfl
theorem zero10' : Builtin.zeroCells (Value.int .i64 0).cells 10 = (ten cl0).toArray := by kernel_rfl

/-- room for them -/
theorem zeros_room (w : World) (ty : TypeId) (i : TypeInfo) (hi : Tryz.prog.info? 2 = some i) (hz : i.zero = some (.int .i64 0)) (hs : i.size = 1) (hb : i.bytes = 8)
    (g sLen sCap : Nat) (cur : Array Value) (hg : w.heap[g]? = some (.cells cur 2 (0, 0))) (hroom : sLen + 10 ≤ sCap) (hfit : sLen + 10 ≤ cur.size) :
    (Builtin.append_ #[60, 3] ty #[.slice (some ⟨g, 0, none⟩) sLen sCap, .int .i64 10]).run Tryz.prog w =
      .ok (.slice (some ⟨g, 0, none⟩) (sLen + 10) sCap) (w.setRow g (cur.toList.take sLen ++ ten cl0 ++ cur.toList.drop (sLen + 10)).toArray) := by
  have hst := run_storeCells_at Tryz.prog g sLen 2 (ten cl0) 0 cur w hg (by simpa [ten_len] using hfit) (ten_one _)
  simp only [Nat.add_zero] at hst
  have hw : IntKind.i64.wrap (10 : Int) = 10 := by decide
  simp [Builtin.append_, run_underlying Tryz.underlying60, run_underlying Tryz.underlying3, sizeOf, typeInfo, zeroValue, hi, hz, hs, hb, asInt, asIntOf, hw, hroom, Addr.add_lit, zero10', hst, ten_len]

theorem append_ten (w : World) (ty : TypeId) (v : Value) (n : Nat) (xs : List Value) (hown : w.ownsRow 0 2 1 v n xs) (hn : n ≤ 1000000) :
    ∃ g cap w', (Builtin.append_ #[60, 3] ty #[v, .int .i64 10]).run Tryz.prog w = .ok (.slice (some ⟨g, 0, none⟩) (n + 10) cap) w' ∧
      w'.ownsRow 0 2 1 (.slice (some ⟨g, 0, none⟩) (n + 10) cap) (n + 10) (xs ++ ten cl0) ∧ w.grownBy w' v.ownBlock ∧ (v.ownBlock = some g ∨ g = w.heap.size) ∧ g < w'.heap.size := by
  obtain ⟨i, hi, hz, hs, hb⟩ := info_parts info2
  have hlen : (xs ++ ten cl0).length = (n + 10) * 1 := by rw [List.length_append, hown.1, ten_len, Nat.add_mul]
  have hxl : xs.length = n := by have := hown.1; omega
  have grown : ∀ (old : Nat), ∀ (row : Option Nat),
      (w.drew.alloc (.cells (xs.toArray ++ (ten cl0).toArray ++ Builtin.zeroCells (Value.int .i64 0).cells (grownCap w (n + 10) old 2 - (n + 10))) 2)).ownsRow 0 2 1
        (.slice (some ⟨w.heap.size, 0, none⟩) (n + 10) (grownCap w (n + 10) old 2)) (n + 10) (xs ++ ten cl0) ∧
      w.grownBy (w.drew.alloc (.cells (xs.toArray ++ (ten cl0).toArray ++ Builtin.zeroCells (Value.int .i64 0).cells (grownCap w (n + 10) old 2 - (n + 10))) 2)) row := by
    intro old row
    have hge := grownCap_ge w (n + 10) old 2
    have hcm : grownCap w (n + 10) old 2 ≤ maxLen := grownCap_le_maxLen w (n + 10) old 2 (by simp only [maxLen]; omega)
    refine ⟨⟨hlen, .inr ⟨w.heap.size, _, _, rfl, Nat.zero_le _, heap_alloc_new w.drew _, hge, hcm, ?_, ?_⟩⟩, ⟨rfl, rfl, rfl, by simp, fun k hk _ => Below.heap_alloc w.drew _ k hk⟩⟩
    · simp only [Array.size_append, List.size_toArray, size_zeroCells, hxl, ten_len]
      simp [Value.cells]
      omega
    · simp only [Array.toList_append, List.append_assoc]
      rw [← List.append_assoc, ← hlen]
      exact List.take_left
  rcases hown.2 with ⟨rfl, rfl⟩ | ⟨g, cap, cur, rfl, hbg, hg, hnc, hcm, hcs, htake⟩
  · have hx : xs = [] := List.eq_nil_of_length_eq_zero hxl
    subst hx
    have hr := Lib.run_append_nil_zeros (P := Tryz.prog) w 60 3 ty 2 i (.int .i64 0) .i64 .i64 Tryz.underlying60 Tryz.underlying3 hi hz 10 (by decide) (by omega) (by decide) (by rw [hb]; decide)
    have hgr := grown 0 (Value.ownBlock (.slice none 0 0))
    rw [zero10'] at hr
    simp only [Nat.zero_add, List.nil_append, Array.empty_append] at hgr ⊢
    exact ⟨_, _, _, hr, hgr.1, hgr.2, Or.inr rfl, by simp⟩
  · by_cases hroom : n + 10 ≤ cap
    · have hr := zeros_room w ty i hi hz hs hb g n cap cur hg hroom (by rw [hcs]; omega)
      refine ⟨g, cap, _, hr, ⟨hlen, .inr ⟨g, cap, _, rfl, hbg, setRow_heap w g cur _ 2 _ hg, hroom, hcm, ?_, ?_⟩⟩, ⟨rfl, rfl, rfl, by simp, fun k _ hk => setRow_other w g k _ (fun e => hk (by simp [Value.ownBlock, e]))⟩, Or.inl rfl, ?_⟩
      · simp only [List.size_toArray, List.length_append, List.length_take, List.length_drop, Array.length_toList, ten_len]
        omega
      · rw [show cur.toList.take n = xs by have := htake; rwa [Nat.mul_one] at this, ← hlen]
        exact List.take_left
      · have := lt_of_block hg
        simpa using this
    · have holds : ∀ j u, xs[j]? = some u → w.cell? ((⟨g, 0, none⟩ : Addr).add j) = some u := hown.cells (g := g) rfl
      have hr := Lib.run_append_grow_zeros (P := Tryz.prog) w 60 3 ty 2 i (.int .i64 0) .i64 .i64 Tryz.underlying60 Tryz.underlying3 hi hz (some ⟨g, 0, none⟩) n cap xs (run_firstCells_some (P := Tryz.prog) w.drew i.size n ⟨g, 0, none⟩ n cap xs (by rw [hs]; omega) (by simpa using holds)) 10 (by decide) (by omega) (by omega) (by omega) (by rw [hb]; decide) (growslice_fits (by omega) (by rw [hb]; omega))
      have hgr := grown cap (Value.ownBlock (.slice (some ⟨g, 0, none⟩) n cap))
      rw [zero10'] at hr
      exact ⟨_, _, _, hr, hgr.1, hgr.2, Or.inr rfl, by simp⟩
end Go.Proofs.YtnkpopeahmjodaaGreat
