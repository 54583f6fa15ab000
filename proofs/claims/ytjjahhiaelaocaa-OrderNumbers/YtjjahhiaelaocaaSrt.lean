/- The walks of the library's SortStableFunc and of order.Sort: a new row with all entries, in order; nothing that was there is turned. -/
import Derived.Test.YtjjahhiaelaocaaRow
namespace Go.Proofs.Ytjjahhiaelaocaa
open Go.ChangeShapes Go.WideShapes Go.ChangeAt Go.RowKit

theorem info26 : (Try.prog.info? 26).map (fun i => (i.zero, i.size, i.bytes)) = some (some (.agg #[.int .i64 0, .int .i64 0]), 2, 16) := by kernel_rfl

set_option maxHeartbeats 400000 in
theorem stableFunc_any (g off cap : Nat) (l : List (Int × Int)) (w : World) (hl : l.length ≤ 1000000) (ho : Own w g off l) :
    Calls Try.prog 31 #[.slice (some ⟨g, off, none⟩) l.length cap, .func (.func 19) #[] #[]] w fun e w' =>
      e = .returned (.tuple #[]) ∧ ∃ l', Within 0 l.length l l' ∧ SortedOn l' 0 l.length ∧ Own w' g off l' ∧ Below g w w' := by
  have HC := hid (stable_any g off cap l w hl ho)
  clear ho
  go_enter Try.func31, Try.ntmps31
  go_wp2_with fail
  refine HC.out.mono ?_
  rintro e w' ⟨rfl, h⟩
  go_wp2
  go_end0
  exact ⟨rfl, h⟩

/-- make lays a new row -/
theorem make_any (w : World) (n : Nat) (hn : n ≤ 1000000) : ∃ w1 cur, (Instr.makeSlice 27 (.int .i64 (n : Int)) (.int .i64 (n : Int))).run Try.prog w = .ok (.slice (some ⟨w.heap.size, 0, none⟩) n n) w1 ∧
    w1.heap[w.heap.size]? = some (.cells cur 26 (0, 0)) ∧ cur.size = n * 2 ∧ Below w.heap.size w w1 := by
  obtain ⟨i, hi, h0, h1, h2⟩ := info_parts info26
  have hr := run_make (P := Try.prog) w 27 26 i (.agg #[.int .i64 0, .int .i64 0]) Try.underlying27 hi h0 .i64 .i64 (n : Int) (n : Int) (by omega) (Int.le_refl _) (by rw [h2]; omega) (by omega)
  generalize hcur : madeCells (Value.agg #[Value.int IntKind.i64 0, Value.int IntKind.i64 0]).cells ((n : Int).toNat * i.size) = cur at hr
  refine ⟨w.alloc (.cells cur 26), cur, hr, (MapKept.heap_alloc w _).1, ?_, (Below.refl _ _).alloc (Nat.le_refl _) _⟩
  rw [← hcur, size_madeCells, h1]; simp

/-- what copy lays -/
theorem copy_any (w0 w1 : World) (a : Option Addr) (cap : Nat) (l : List (Int × Int)) (cur : Array Value) (ty : TypeId) (hE : Ents w0 a l) (hg : w1.heap[w0.heap.size]? = some (.cells cur 26 (0, 0))) (hc : cur.size = l.length * 2) (hb : Below w0.heap.size w0 w1) :
    ∃ w2, (Builtin.copy_ #[27, 27] ty #[.slice (some ⟨w0.heap.size, 0, none⟩) l.length l.length, .slice a l.length cap]).run Try.prog w1 = .ok (goInt l.length) w2 ∧ Own w2 w0.heap.size 0 l ∧ Below w0.heap.size w0 w2 := by
  have hsz : (Try.prog.info? 26).map (·.size) = some 2 := by
    obtain ⟨i, hi, h0, h1, h2⟩ := info_parts info26
    rw [hi]; simp [h1]
  rcases hE with rfl | ⟨b, off, rfl, hbl, hr⟩
  · exact ⟨w1, run_copy_two_none w1 27 27 ty 26 _ _ _ _ _ _ Try.underlying27 hsz rfl, own_of_block hg (by simp [flat]), hb⟩
  · have hr1 : Row w1 b off l := hr.below hbl hb
    have hrun := run_copy_two (P := Try.prog) w1 27 27 ty 26 w0.heap.size 0 l.length l.length ⟨b, off, none⟩ l.length cap l.length cur 26 (flat l) Try.underlying27 hsz hg (by simp) (flat_length l) (fun j v h => hr1.src j v h) (by rw [flat_length]; omega) (flat_one l)
    refine ⟨_, hrun, ?_, hb.trans ⟨rfl, rfl, rfl, by simp, fun k hk => setRow_other w1 _ k _ (by omega)⟩⟩
    refine own_of_block (setRow_heap w1 _ cur _ 26 (0, 0) hg) ?_
    have e1 : cur.toList.drop (0 + (flat l).length) = [] := by
      rw [List.drop_eq_nil_iff, flat_length]; simp [hc]
    rw [e1]
    simp [← flat_length]

set_option maxHeartbeats 1000000 in
theorem sort_any (a : Option Addr) (cap : Nat) (l : List (Int × Int)) (w : World) (hl : l.length ≤ 1000000) (hE : Ents w a l) :
    Calls Try.prog 15 #[.slice a l.length cap] w fun e w' =>
      e = .returned (.slice (some ⟨w.heap.size, 0, none⟩) l.length l.length) ∧ ∃ l', Within 0 l.length l l' ∧ SortedOn l' 0 l.length ∧ Own w' w.heap.size 0 l' ∧ Below w.heap.size w w' := by
  obtain ⟨w1, cur, hmk, h1, h2, h3⟩ := make_any w l.length hl
  obtain ⟨w2, hcp, h4, h5⟩ := copy_any w w1 a cap l cur 3 hE h1 h2 h3
  have HC := hid (stableFunc_any w.heap.size 0 l.length l w2 hl h4)
  have BL := hid h5
  clear h1 h2 h3 h4 h5 hE
  go_enter Try.func15, Try.ntmps15
  go_wp2_with fail
  refine HC.out.mono ?_
  rintro e w' ⟨rfl, l', h1, h2, h3, h4⟩
  go_wp2
  go_ret
  exact ⟨rfl, l', h1, h2, h3, BL.out.trans h4⟩
end Go.Proofs.Ytjjahhiaelaocaa
