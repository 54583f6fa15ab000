/- The comparing of two Refs; the walks of the laws' Within and of some of the chapter's runs. -/
import Derived.Test.YtliabapopgeieaaHdI
import Derived.Laws.StructEq
namespace Go.Proofs.Ytliabapopgeieaa
open Go.ChangeShapes Go.WideShapes Go.ChangeAt Go.RowKit

def I64 (x : Int) : Prop := -9223372036854775808 ≤ x ∧ x ≤ 9223372036854775807
theorem i64_of_wf {x : Int} (h : (Lit.int .i64 x).wf = true) : I64 x := by
  simp [Lit.wf, IntKind.min, IntKind.max, IntKind.signed, IntKind.bits] at h
  exact ⟨by omega, by omega⟩

theorem equal25 (x y : Int × Int) (w : World) : (Op.equalIn 10000 25 (.agg #[.int .i64 x.1, .int .i64 x.2]) (.agg #[.int .i64 y.1, .int .i64 y.2])).run Try.prog w = .ok (decide (x = y)) w := by
  have u2 := Try.underlying3
  have a2 := Try.isAgg3
  have z2 := Try.sizeOf3
  have hS : Try.prog.underlying 25 = some (.struct (Try.prog.fieldsOf 25)) := by kernel_rfl
  have hp : Try.prog.stoodInHeld 25 = false := by kernel_rfl
  rw [show (10000 : Nat) = 9999 + 1 from rfl, run_equalIn_agg w 9999 25 _ _ hS hp]
  simp only [Program.fieldsOf, Try.underlying25]
  go_simp
  obtain ⟨x1, x2⟩ := x
  obtain ⟨y1, y2⟩ := y
  by_cases h1 : x1 = y1 <;> by_cases h2 : x2 = y2 <;> simp [h1, h2]
theorem eql25 (x y : Int × Int) (w : World) : (binOp .eql 25 (.agg #[.int .i64 x.1, .int .i64 x.2]) (.agg #[.int .i64 y.1, .int .i64 y.2])).run Try.prog w = .ok (.bool (decide (x = y))) w := by
  rw [run_eql_struct, equal25]
  rfl
theorem neq25 (x y : Int × Int) (w : World) : (binOp .neq 25 (.agg #[.int .i64 x.1, .int .i64 x.2]) (.agg #[.int .i64 y.1, .int .i64 y.2])).run Try.prog w = .ok (.bool (!decide (x = y))) w := by
  rw [run_neq_struct, equal25]
  rfl

theorem tmod_bounds (n : Int) {k : Int} (hk : 0 < k) : -k < n.tmod k ∧ n.tmod k < k := by
  constructor
  · have h2 := Int.lt_tmod_of_pos n hk; omega
  · exact Int.tmod_lt_of_pos n hk

set_option maxHeartbeats 1000000 in
theorem within_any (n : Int) (hn : I64 n) (lo hi : Nat) (hlh : lo ≤ hi) (hh : hi ≤ 1000) (w : World) :
    Calls Try.prog 11 #[.int .i64 n, .int .i64 lo, .int .i64 hi] w fun e w' => ∃ r : Nat, e = .returned (.int .i64 r) ∧ lo ≤ r ∧ r ≤ hi ∧ w' = w := by
  obtain ⟨h1, h2⟩ := hn
  by_cases c1 : (lo : Int) ≤ n
  · by_cases c2 : n ≤ (hi : Int)
    · go_enter Try.func11, Try.ntmps11
      go_wp2
      go_ret
      exact ⟨n.toNat, ret_int (by omega), by omega, by omega, rfl⟩
    · obtain ⟨d, hd⟩ : ∃ d : Nat, (hi : Int) - (lo : Int) = d := ⟨hi - lo, by omega⟩
      have hwd : IntKind.i64.wrap ((d : Int) + 1) = (d : Int) + 1 := IntWalk.i64_in _ (by omega)
      have hne : ¬ ((d : Int) + 1 = 0) := by omega
      obtain ⟨t1, t2⟩ := tmod_bounds n (k := (d : Int) + 1) (by omega)
      have hnn : 0 ≤ n.tmod ((d : Int) + 1) := Int.tmod_nonneg _ (by omega)
      have HD := hid hd
      have c2' : decide (n ≤ (hi : Int)) = false := by simp; omega
      obtain ⟨t, ht⟩ : ∃ t : Int, n.tmod ((d : Int) + 1) = t := ⟨_, rfl⟩
      rw [ht] at t1 t2 hnn
      go_enter Try.func11, Try.ntmps11
      go_wp2
      go_ret
      exact ⟨lo + t.toNat, ret_int (by omega), by omega, by omega, rfl⟩
  · obtain ⟨d, hd⟩ : ∃ d : Nat, (hi : Int) - (lo : Int) = d := ⟨hi - lo, by omega⟩
    have hwd : IntKind.i64.wrap ((d : Int) + 1) = (d : Int) + 1 := IntWalk.i64_in _ (by omega)
    have hne : ¬ ((d : Int) + 1 = 0) := by omega
    obtain ⟨t1, t2⟩ := tmod_bounds n (k := (d : Int) + 1) (by omega)
    have c1' : decide ((lo : Int) ≤ n) = false := by simp; omega
    obtain ⟨t, ht⟩ : ∃ t : Int, n.tmod ((d : Int) + 1) = t := ⟨_, rfl⟩
    rw [ht] at t1 t2
    by_cases c3 : t < 0
    · go_enter Try.func11, Try.ntmps11
      go_wp2
      go_ret
      exact ⟨(lo + (t + hi - lo + 1)).toNat, ret_int (by omega), by omega, by omega, rfl⟩
    · have c3' : decide (t < 0) = false := by simp; omega
      go_enter Try.func11, Try.ntmps11
      go_wp2
      go_ret
      exact ⟨(lo + t).toNat, ret_int (by omega), by omega, by omega, rfl⟩

theorem knew (w : World) (o : Obj) : Kept (fun _ => False) w (w.alloc o) := (Kept.refl _ _).alloc o
theorem cell_new (w : World) (x y : Value) (t : TypeId) : (w.alloc (.cells #[x, y] t)).cell? ⟨w.heap.size, 0, none⟩ = some x ∧ (w.alloc (.cells #[x, y] t)).cell? ⟨w.heap.size, 1, none⟩ = some y := by simp

set_option maxHeartbeats 2000000 in
theorem known_any (w : World) : Calls Try.prog 10 #[] w fun e w' => e = .returned (.bool true) ∧ Below w.heap.size w w' := by
  have q1 := fun w => eql25 (0, 2) (0, 2) w
  simp at q1
  have Q1 := hid q1
  clear q1
  go_enter Try.func10, Try.ntmps10
  go_wp2_with fail
  refine (newIH 1 w).mono ?_
  rintro e w1 ⟨F1, pa, rfl, h1⟩
  have H1 := hid h1
  clear h1
  go_wp2_with fail
  refine (takeIH 5 H1.out (by decide) (by decide) (by decide) (by decide)).mono ?_
  rintro e w2 ⟨rfl, h2, -⟩
  rw [show takeS (0 : Int) 5 ⟨most0 1, [], []⟩ = ⟨1, [(5, 1, true)], []⟩ from rfl] at h2
  rw [show tookS (0 : Int) ⟨most0 1, [], []⟩ = (0, 1) from rfl, show (nextS (0 : Int) ⟨most0 1, [], []⟩).2.2 = true from rfl]
  generalize Grow F1 w1 w2 = F2 at h2
  obtain ⟨a0, a1⟩ := cell_new w2 (.int .i64 0) (.int .i64 1) 25
  have h2' := h2.plain (knew w2 (.cells #[.int .i64 0, .int .i64 1] 25))
  have aF := h2.out
  have aL : w2.heap.size < (w2.alloc (.cells #[.int .i64 0, .int .i64 1] 25)).heap.size := by simp
  have H2 := hid h2'
  have AF := hid aF
  have AL := hid aL
  have A0 := hid a0
  have A1 := hid a1
  clear h2 h2' H1 aF aL a0 a1
  go_wp2_with fail
  refine (takeIH 6 H2.out (by decide) (by decide) (by decide) (by decide)).mono ?_
  rintro e w3 ⟨rfl, h3, k3⟩
  rw [show takeS (0 : Int) 6 ⟨1, [(5, 1, true)], []⟩ = ⟨1, [(5, 1, true)], []⟩ from rfl] at h3
  rw [show tookS (0 : Int) ⟨1, [(5, 1, true)], []⟩ = (0, 0) from rfl, show (nextS (0 : Int) ⟨1, [(5, 1, true)], []⟩).2.2 = false from rfl]
  have aF : ¬ Grow F2 (w2.alloc (.cells #[.int .i64 0, .int .i64 1] 25)) w3 w2.heap.size := fun e => e.elim AF.out fun e => absurd AL.out (by omega)
  have b0 := (k3.cell (p := ⟨w2.heap.size, 0, none⟩) AL.out AF.out).trans A0.out
  have b1 := (k3.cell (p := ⟨w2.heap.size, 1, none⟩) AL.out AF.out).trans A1.out
  have aL : w2.heap.size < w3.heap.size := Nat.lt_of_lt_of_le AL.out k3.size
  generalize Grow F2 (w2.alloc (.cells #[.int .i64 0, .int .i64 1] 25)) w3 = F3 at h3 aF
  have H3 := hid (h3.plain (knew w3 (.cells #[.int .i64 0, .int .i64 0] 25)))
  have AF3 := hid aF
  clear h3 k3 H2 AF AL A0 A1 aF
  generalize w2.heap.size = A at b0 b1 aL AF3
  go_wp2_with fail
  refine (giveIH 0 1 H3.out (by decide)).mono ?_
  rintro e w4 ⟨rfl, h4, k4⟩
  rw [show giveS (0 : Int) ⟨1, [(5, 1, true)], []⟩ 0 1 = ⟨1, [(0, 1, false)], [0]⟩ from rfl] at h4
  rw [show getS (0 : Int) [(5, 1, true)] 0 1 = 5 from rfl, show lookS [((5 : Int), 1, true)] 0 1 = 0 from rfl]
  have aF : ¬ Grow F3 (w3.alloc (.cells #[.int .i64 0, .int .i64 0] 25)) w4 A := fun e => e.elim AF3.out fun e => absurd e.1 (by simp; omega)
  have hs : w3.heap.size < w4.heap.size := Nat.lt_of_lt_of_le (by simp) k4.size
  have d0 := (k4.cell (p := ⟨A, 0, none⟩) (by simp; omega) AF3.out).trans (((knew w3 (.cells #[.int .i64 0, .int .i64 0] 25)).cell (p := ⟨A, 0, none⟩) aL fun e => e).trans b0)
  have d1 := (k4.cell (p := ⟨A, 1, none⟩) (by simp; omega) AF3.out).trans (((knew w3 (.cells #[.int .i64 0, .int .i64 0] 25)).cell (p := ⟨A, 1, none⟩) aL fun e => e).trans b1)
  have aL4 : A < w4.heap.size := by omega
  generalize Grow F3 (w3.alloc (.cells #[.int .i64 0, .int .i64 0] 25)) w4 = F4 at h4 aF
  have H4 := hid h4
  have AF4 := hid aF
  clear h4 k4 H3 AF3 aF b0 b1 hs aL
  go_wp2_with fail
  refine (takeIH 7 H4.out (by decide) (by decide) (by decide) (by decide)).mono ?_
  rintro e w5 ⟨rfl, h5, k5⟩
  rw [show takeS (0 : Int) 7 ⟨1, [(0, 1, false)], [0]⟩ = ⟨1, [(7, 2, true)], []⟩ from rfl] at h5
  rw [show tookS (0 : Int) ⟨1, [(0, 1, false)], [0]⟩ = (0, 2) from rfl, show (nextS (0 : Int) ⟨1, [(0, 1, false)], [0]⟩).2.2 = true from rfl]
  have f0 := (k5.cell (p := ⟨A, 0, none⟩) aL4 AF4.out).trans d0
  have f1 := (k5.cell (p := ⟨A, 1, none⟩) aL4 AF4.out).trans d1
  have aL5 : A < w5.heap.size := Nat.lt_of_lt_of_le aL4 k5.size
  generalize Grow F4 w4 w5 = F5 at h5
  have H5 := hid (h5.plain (knew w5 (.cells #[.int .i64 0, .int .i64 2] 25)))
  obtain ⟨g0, g1⟩ := cell_new w5 (.int .i64 0) (.int .i64 2) 25
  have G0 := hid g0
  have G1 := hid g1
  clear h5 k5 H4 AF4 d0 d1 aL4 g0 g1
  go_wp2_with fail
  refine (getIH 0 1 H5.out).mono ?_
  rintro e w6 ⟨rfl, h6, k6⟩
  rw [show getS (0 : Int) [(7, 2, true)] 0 1 = 0 from rfl, show lookS [((7 : Int), 2, true)] 0 1 = 23 from rfl]
  have i0 := (k6.cell (p := ⟨w5.heap.size, 0, none⟩) (by simp) fun e => e).trans G0.out
  have i1 := (k6.cell (p := ⟨w5.heap.size, 1, none⟩) (by simp) fun e => e).trans G1.out
  have hs6 : w5.heap.size < w6.heap.size := Nat.lt_of_lt_of_le (by simp) k6.size
  have BL := hid h6.bel
  have q1 := Q1.out
  clear h6 k6 H5 f0 f1 aL5 G0 G1
  go_wp2
  go_ret
  exact ⟨rfl, BL.out⟩
end Go.Proofs.Ytliabapopgeieaa
