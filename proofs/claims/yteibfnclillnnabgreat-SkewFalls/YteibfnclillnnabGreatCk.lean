/- The laws' cost, and that it turns no other block. -/
import Derived.Test.YteibfnclillnnabGreatGj
namespace Go.Proofs.YteibfnclillnnabGreat
open Go.ChangeShapes Go.WideShapes Go.ChangeAt Go.RowKit

set_option maxHeartbeats 2000000 in
theorem costWk (n t : Nat) (hn : n < 1048576) {w0 : Fm} {w : World} {F : Nat → Prop} {pw pa pm : Nat} {v0 v1 : Value} {s : St} {r0 r1 : Int} {L0 L1 : List (Nat × Int × Int)} {nx sp mo : Int} (h : Wx w0 w F pw pa pm v0 v1 s r0 r1 L0 L1 nx sp mo) (ht : t ≤ s.steps) (hs : s.steps ≤ 100000000) :
    Calls Tryz.prog 18 #[.pointer (some ⟨pw, 0, none⟩), .int .i64 (t : Int), .int .i64 1, .int .i64 (n : Int)] w fun e w' => e = .returned (.bool (decide (s.steps ≤ t + (500 + 400 * bts n)))) ∧ Kept (fun b => b = pw) w w' ∧ ∃ sp' mo', Wx w0 w' F pw pa pm v0 v1 s r0 r1 L0 L1 nx sp' mo' := by
  have HW := hid h
  have M := hid (meterA pa pm s F w h.is)
  have T := hid (stepsA pa pm s F w h.is)
  have B20 := bts_le 20 n hn
  have LI := hid (fun w => limitR n hn w)
  generalize bts n = bn at *
  obtain ⟨c0, c1, c2, c3, c4, c5, c6, c7, cf⟩ := h.cells
  have hlt := h.lt
  have f6 := cf 6
  have f7 := cf 7
  clear h c1 c2 c3 c4 c5 cf hn
  generalize hq : s.steps = q at *
  clear hq
  obtain ⟨x, hx⟩ : ∃ x : Nat, (q : Int) - (t : Int) = (x : Int) := ⟨q - t, by omega⟩
  have HX := hid hx
  have hx1 : x ≤ 100000000 := by omega
  obtain ⟨y, hy⟩ : ∃ y : Nat, y = 500 + 400 * bn := ⟨_, rfl⟩
  rw [← hy] at LI ⊢
  have hy1 : y ≤ 10000 := by omega
  have HY := hid hy
  clear hy
  go_enter Tryz.func18, Tryz.ntmps18
  go_wp2_with fail
  refine M.out.mono ?_
  rintro e w1 ⟨rfl, rfl⟩
  go_wp2_with fail
  refine T.out.mono ?_
  rintro e w2 ⟨rfl, rfl⟩
  go_wp2_with fail
  refine (LI.out _).mono ?_
  rintro e w3 ⟨rfl, rfl⟩
  clear M T LI
  go_wp2_with fail
  go_region
  go_wp2
  go_ret
  have b1 := blk_set (j := 6) (u := .int .i64 (wrap64 (sp + x))) HW.out.blk
  have b2 := blk_set (j := 7) (u := .int .i64 (wrap64 (mo + y))) b1
  have kk := ((kept_pw w3 pw 6 (.int .i64 (wrap64 (sp + x)))).trans' (kept_pw _ pw 7 (.int .i64 (wrap64 (mo + y))))).drew
  refine ⟨ret_bool ?_, kk, wrap64 (sp + x), wrap64 (mo + y), HW.out.wrote kk (by have b3 := b2; simp at b3; exact b3) (HW.out.l0.kept kk fun _ q => q.2) (HW.out.l1.kept kk fun _ q => q.2)⟩
  have := HX.out
  by_cases z : x ≤ y
  · rw [decide_eq_true (by omega), decide_eq_true (by omega)]
  · rw [decide_eq_false (by omega), decide_eq_false (by omega)]
end Go.Proofs.YteibfnclillnnabGreat
