/- The laws' own world: an arena, two roots, two lists of what is held, three counters. -/
import Derived.Test.YtnkpopeahmjodaaGreatHm
import Derived.Test.YtnkpopeahmjodaaGreatLm
namespace Go.Proofs.YtnkpopeahmjodaaGreat
open Go.ChangeShapes Go.WideShapes Go.ChangeAt Go.RowKit

/-- what is left alone: all of w but T -/
structure Fm where
  w : World
  T : Nat → Prop
def Fm.of (w : World) : Fm := ⟨w, fun _ => False⟩
theorem Kept.over {T F : Nat → Prop} {a b c : World} (h : Kept T a b) (k : Kept F b c) (hF : ∀ i, F i → T i ∨ a.heap.size ≤ i) : Kept T a c :=
  ⟨k.os.trans h.os, k.tape.trans h.tape, k.output.trans h.output, Nat.le_trans h.size k.size, fun i hi hn =>
    (k.block i (Nat.lt_of_lt_of_le hi h.size) (fun e => by rcases hF i e with q | q; exact hn q; omega)).trans (h.block i hi hn)⟩
/-- the world at pw -/
structure Wx (w0 : Fm) (w : World) (F : Nat → Prop) (pw pa pm : Nat) (v0 v1 : Value) (s : St) (r0 r1 : Int) (L0 L1 : List (Nat × Int × Int)) (nx sp mo : Int) : Prop where
  blk : w.heap[pw]? = some (.cells #[.pointer (some ⟨pa, 0, none⟩), .int .i64 r0, .int .i64 r1, v0, v1, .int .i64 nx, .int .i64 sp, .int .i64 mo] 39)
  is : IsA w F pa pm s
  out : ¬ F pw
  l0 : Lz (fun b => ¬ F b ∧ b ≠ pw) w v0 L0
  l1 : Lz (fun b => ¬ F b ∧ b ≠ pw) w v1 L1
  new : ∀ k, F k → w0.T k ∨ w0.w.heap.size ≤ k
  pwn : w0.T pw ∨ w0.w.heap.size ≤ pw
  kep : Kept w0.T w0.w w

section
variable {w0 : Fm} {w w' : World} {F : Nat → Prop} {pw pa pm : Nat} {v0 v1 : Value} {s s' : St} {r0 r1 : Int} {L0 L1 : List (Nat × Int × Int)} {nx sp mo : Int}
theorem Wx.lt (h : Wx w0 w F pw pa pm v0 v1 s r0 r1 L0 L1 nx sp mo) : pw < w.heap.size := lt_of_block h.blk
/-- a call of the arena that makes no blocks of its own -/
theorem Wx.ex (h : Wx w0 w F pw pa pm v0 v1 s r0 r1 L0 L1 nx sp mo) (e : Ex F w w' pa pm s') : Wx w0 w' F pw pa pm v0 v1 s' r0 r1 L0 L1 nx sp mo :=
  ⟨(e.kept.block pw h.lt h.out).trans h.blk, e.is, h.out, h.l0.kept e.kept (fun _ q => q.1), h.l1.kept e.kept (fun _ q => q.1), h.new, h.pwn, h.kep.over e.kept h.new⟩
theorem Wx.aft (h : Wx w0 w F pw pa pm v0 v1 s r0 r1 L0 L1 nx sp mo) (e : Aft F w w' pa pm s') : Wx w0 w' (Grow F w w') pw pa pm v0 v1 s' r0 r1 L0 L1 nx sp mo :=
  ⟨(e.kept.block pw h.lt h.out).trans h.blk, e.is, fun q => q.elim h.out fun q => by have := h.lt; omega,
   (h.l0.mono (Q := fun b => (¬ F b ∧ b ≠ pw) ∧ b < w.heap.size) (fun b hb q => ⟨q, hb⟩) |>.kept e.kept (fun _ q => q.1.1)).mono (fun b _ q => ⟨fun z => z.elim q.1.1 fun z => by have := q.2; omega, q.1.2⟩),
   (h.l1.mono (Q := fun b => (¬ F b ∧ b ≠ pw) ∧ b < w.heap.size) (fun b hb q => ⟨q, hb⟩) |>.kept e.kept (fun _ q => q.1.1)).mono (fun b _ q => ⟨fun z => z.elim q.1.1 fun z => by have := q.2; omega, q.1.2⟩),
   fun k q => q.elim (h.new k) fun q => Or.inr (Nat.le_trans h.kep.size q.1), h.pwn, h.kep.over e.kept h.new⟩
theorem Wx.plain (h : Wx w0 w F pw pa pm v0 v1 s r0 r1 L0 L1 nx sp mo) (k : Kept (fun _ => False) w w') : Wx w0 w' F pw pa pm v0 v1 s r0 r1 L0 L1 nx sp mo := h.ex ((Ex.start h.is).plain k)
theorem Wx.drewN (h : Wx w0 w F pw pa pm v0 v1 s r0 r1 L0 L1 nx sp mo) (n : Nat) : Wx w0 (w.drewN n) F pw pa pm v0 v1 s r0 r1 L0 L1 nx sp mo := h.plain ((Kept.refl _ _).drewN n)
/-- the block of the world is written -/
theorem Wx.wrote {v0' v1' : Value} {r0' r1' nx' sp' mo' : Int} {L0' L1' : List (Nat × Int × Int)} (h : Wx w0 w F pw pa pm v0 v1 s r0 r1 L0 L1 nx sp mo) (k : Kept (fun b => b = pw) w w')
    (hb : w'.heap[pw]? = some (.cells #[.pointer (some ⟨pa, 0, none⟩), .int .i64 r0', .int .i64 r1', v0', v1', .int .i64 nx', .int .i64 sp', .int .i64 mo'] 39)) (h0 : Lz (fun b => ¬ F b ∧ b ≠ pw) w' v0' L0') (h1 : Lz (fun b => ¬ F b ∧ b ≠ pw) w' v1' L1') :
    Wx w0 w' F pw pa pm v0' v1' s r0' r1' L0' L1' nx' sp' mo' :=
  ⟨hb, h.is.kept k (fun b hF q => h.out (q ▸ hF)), h.out, h0, h1, h.new, h.pwn, h.kep.over k fun b q => by rw [q]; exact h.pwn⟩
theorem Wx.cells (h : Wx w0 w F pw pa pm v0 v1 s r0 r1 L0 L1 nx sp mo) : w.cell? ⟨pw, 0, none⟩ = some (.pointer (some ⟨pa, 0, none⟩)) ∧ w.cell? ⟨pw, 1, none⟩ = some (.int .i64 r0) ∧ w.cell? ⟨pw, 2, none⟩ = some (.int .i64 r1) ∧ w.cell? ⟨pw, 3, none⟩ = some v0 ∧ w.cell? ⟨pw, 4, none⟩ = some v1 ∧ w.cell? ⟨pw, 5, none⟩ = some (.int .i64 nx) ∧ w.cell? ⟨pw, 6, none⟩ = some (.int .i64 sp) ∧ w.cell? ⟨pw, 7, none⟩ = some (.int .i64 mo) ∧ (∀ j, w.frozen? ⟨pw, j, none⟩ = false) :=
  ⟨blk_cell h.blk rfl, blk_cell h.blk rfl, blk_cell h.blk rfl, blk_cell h.blk rfl, blk_cell h.blk rfl, blk_cell h.blk rfl, blk_cell h.blk rfl, blk_cell h.blk rfl, fun _ => blk_free h.blk⟩
end
theorem kept_pw (w : World) (g o : Nat) (u : Value) : Kept (fun k => k = g) w (w.setCell ⟨g, o, none⟩ u) := (Kept.refl (fun k => k = g) w).setCell (p := ⟨g, o, none⟩) (Or.inl rfl) u

set_option maxHeartbeats 2000000 in
theorem costW (n t : Nat) (hn : n < 1048576) {w0 : Fm} {w : World} {F : Nat → Prop} {pw pa pm : Nat} {v0 v1 : Value} {s : St} {r0 r1 : Int} {L0 L1 : List (Nat × Int × Int)} {nx sp mo : Int} (h : Wx w0 w F pw pa pm v0 v1 s r0 r1 L0 L1 nx sp mo) (ht : t ≤ s.steps) (hs : s.steps ≤ 100000000) :
    Calls Tryz.prog 28 #[.pointer (some ⟨pw, 0, none⟩), .int .i64 (t : Int), .int .i64 1, .int .i64 (n : Int)] w fun e w' => e = .returned (.bool (decide (s.steps ≤ t + (500 + 400 * bts n)))) ∧ ∃ sp' mo', Wx w0 w' F pw pa pm v0 v1 s r0 r1 L0 L1 nx sp' mo' := by
  have HW := hid h
  have M := hid (meterA pa pm s F w h.is)
  have T := hid (stepsA pa pm s F w h.is)
  have B20 := bts_le 20 n hn
  have LI := hid (fun w => limitR n hn w)
  generalize bts n = bn at *
  obtain ⟨c0, c1, c2, c3, c4, c5, c6, c7, cf⟩ := h.cells
  have hlt := h.lt
  have f6 := cf 6
  have f7 := cf 7
  clear h c1 c2 c3 c4 c5 cf hn
  generalize hq : s.steps = q at *
  clear hq
  obtain ⟨x, hx⟩ : ∃ x : Nat, (q : Int) - (t : Int) = (x : Int) := ⟨q - t, by omega⟩
  have HX := hid hx
  have hx1 : x ≤ 100000000 := by omega
  obtain ⟨y, hy⟩ : ∃ y : Nat, y = 500 + 400 * bn := ⟨_, rfl⟩
  rw [← hy] at LI ⊢
  have hy1 : y ≤ 10000 := by omega
  have HY := hid hy
  clear hy
  go_enter Tryz.func28, Tryz.ntmps28
  go_wp2_with fail
  refine M.out.mono ?_
  rintro e w1 ⟨rfl, rfl⟩
  go_wp2_with fail
  refine T.out.mono ?_
  rintro e w2 ⟨rfl, rfl⟩
  go_wp2_with fail
  refine (LI.out _).mono ?_
  rintro e w3 ⟨rfl, rfl⟩
  clear M T LI
  go_wp2_with fail
  go_region
  go_wp2
  go_ret
  have b1 := blk_set (j := 6) (u := .int .i64 (wrap64 (sp + x))) HW.out.blk
  have b2 := blk_set (j := 7) (u := .int .i64 (wrap64 (mo + y))) b1
  have kk := ((kept_pw w3 pw 6 (.int .i64 (wrap64 (sp + x)))).trans' (kept_pw _ pw 7 (.int .i64 (wrap64 (mo + y))))).drew
  refine ⟨ret_bool ?_, wrap64 (sp + x), wrap64 (mo + y), HW.out.wrote kk (by have b3 := b2; simp at b3; exact b3) (HW.out.l0.kept kk fun _ q => q.2) (HW.out.l1.kept kk fun _ q => q.2)⟩
  have := HX.out
  by_cases z : x ≤ y
  · rw [decide_eq_true (by omega), decide_eq_true (by omega)]
  · rw [decide_eq_false (by omega), decide_eq_false (by omega)]
set_option maxHeartbeats 2000000 in
theorem costW0 (n t : Nat) {w0 : Fm} {w : World} {F : Nat → Prop} {pw pa pm : Nat} {v0 v1 : Value} {s : St} {r0 r1 : Int} {L0 L1 : List (Nat × Int × Int)} {nx sp mo : Int} (h : Wx w0 w F pw pa pm v0 v1 s r0 r1 L0 L1 nx sp mo) (ht : t ≤ s.steps) (hs : s.steps ≤ 100000000) :
    Calls Tryz.prog 28 #[.pointer (some ⟨pw, 0, none⟩), .int .i64 (t : Int), .int .i64 0, .int .i64 (n : Int)] w fun e w' => e = .returned (.bool (decide (s.steps ≤ t + 500))) ∧ ∃ sp' mo', Wx w0 w' F pw pa pm v0 v1 s r0 r1 L0 L1 nx sp' mo' := by
  have HW := hid h
  have M := hid (meterA pa pm s F w h.is)
  have T := hid (stepsA pa pm s F w h.is)
  obtain ⟨c0, c1, c2, c3, c4, c5, c6, c7, cf⟩ := h.cells
  have hlt := h.lt
  have f6 := cf 6
  have f7 := cf 7
  clear h c1 c2 c3 c4 c5 cf
  generalize hq : s.steps = q at *
  clear hq
  obtain ⟨x, hx⟩ : ∃ x : Nat, (q : Int) - (t : Int) = (x : Int) := ⟨q - t, by omega⟩
  have HX := hid hx
  have hx1 : x ≤ 100000000 := by omega
  go_enter Tryz.func28, Tryz.ntmps28
  go_wp2_with fail
  refine M.out.mono ?_
  rintro e w1 ⟨rfl, rfl⟩
  go_wp2_with fail
  refine T.out.mono ?_
  rintro e w2 ⟨rfl, rfl⟩
  clear M T
  go_wp2_with fail
  go_region
  go_wp2
  go_ret
  have b1 := blk_set (j := 6) (u := .int .i64 (wrap64 (sp + x))) HW.out.blk
  have b2 := blk_set (j := 7) (u := .int .i64 (wrap64 (mo + 500))) b1
  have kk := ((kept_pw w2 pw 6 (.int .i64 (wrap64 (sp + x)))).trans' (kept_pw _ pw 7 (.int .i64 (wrap64 (mo + 500))))).drew
  refine ⟨ret_bool ?_, wrap64 (sp + x), wrap64 (mo + 500), HW.out.wrote kk (by have b3 := b2; simp at b3; exact b3) (HW.out.l0.kept kk fun _ q => q.2) (HW.out.l1.kept kk fun _ q => q.2)⟩
  have := HX.out
  by_cases z : x ≤ 500
  · rw [decide_eq_true (by omega), decide_eq_true (by omega)]
  · rw [decide_eq_false (by omega), decide_eq_false (by omega)]
end Go.Proofs.YtnkpopeahmjodaaGreat
