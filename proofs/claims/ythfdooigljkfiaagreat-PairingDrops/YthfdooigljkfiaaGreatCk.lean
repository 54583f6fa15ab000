/- The laws' cost, and that it turns no other block. -/
import Derived.Test.YthfdooigljkfiaaGreatGh
namespace Go.Proofs.YthfdooigljkfiaaGreat
open Go.ChangeShapes Go.WideShapes Go.ChangeAt Go.RowKit

set_option maxHeartbeats 2000000 in
theorem costWk (n t sp mo : Nat) (hn : n < 1048576) {w0 : Fm} {w : World} {F : Nat → Prop} {pw pa pm : Nat} {v0 v1 : Value} {s : St} {r0 r1 : Int} {L0 L1 : List (Nat × Int × Int)} {nx : Int} (h : Wx w0 w F pw pa pm v0 v1 s r0 r1 L0 L1 nx (sp : Int) (mo : Int)) (ht : t ≤ s.steps) (hs : s.steps ≤ 100000000) (hm : mo ≤ 100000000000) (hc : sp + s.steps ≤ mo + t + (500 + 400 * bts n)) :
    Calls Tryz.prog 26 #[.pointer (some ⟨pw, 0, none⟩), .int .i64 (t : Int), .int .i64 1, .int .i64 (n : Int)] w fun e w' => e = .returned (.bool true) ∧ Kept (fun b => b = pw) w w' ∧ ∃ sp' mo' : Nat, sp' + t = sp + s.steps ∧ mo' = mo + (500 + 400 * bts n) ∧ Wx w0 w' F pw pa pm v0 v1 s r0 r1 L0 L1 nx (sp' : Int) (mo' : Int) := by
  have HW := hid h
  have M := hid (meterA pa pm s F w h.is)
  have T := hid (stepsA pa pm s F w h.is)
  have B20 := bts_le 20 n hn
  have LI := hid (fun w => limitR n hn w)
  generalize bts n = bn at *
  obtain ⟨c0, c1, c2, c3, c4, c5, c6, c7, cf⟩ := h.cells
  have hlt := h.lt
  have f6 := cf 6
  have f7 := cf 7
  clear h c1 c2 c3 c4 c5 cf hn
  generalize hq : s.steps = q at *
  clear hq
  obtain ⟨x, hx⟩ : ∃ x : Nat, (q : Int) - (t : Int) = (x : Int) := ⟨q - t, by omega⟩
  have HX := hid hx
  have hx1 : x ≤ 100000000 := by omega
  obtain ⟨y, hy⟩ : ∃ y : Nat, y = 500 + 400 * bn := ⟨_, rfl⟩
  rw [← hy] at LI hc ⊢
  have hy1 : y ≤ 10000 := by omega
  have HY := hid hy
  have hd : decide ((sp : Int) + (x : Int) ≤ (mo : Int) + (y : Int)) = true := by simp; omega
  clear hy
  go_enter Tryz.func26, Tryz.ntmps26
  go_wp2_with fail
  refine M.out.mono ?_
  rintro e w1 ⟨rfl, rfl⟩
  go_wp2_with fail
  refine T.out.mono ?_
  rintro e w2 ⟨rfl, rfl⟩
  go_wp2_with fail
  refine (LI.out _).mono ?_
  rintro e w3 ⟨rfl, rfl⟩
  clear M T LI
  go_wp2_with fail
  go_region
  go_wp2
  have b1 := blk_set (j := 6) (u := .int .i64 ((sp : Int) + (x : Int))) HW.out.blk
  have b2 := blk_set (j := 7) (u := .int .i64 ((mo : Int) + (y : Int))) b1
  have kk := ((kept_pw w3 pw 6 (.int .i64 ((sp : Int) + (x : Int)))).trans' (kept_pw _ pw 7 (.int .i64 ((mo : Int) + (y : Int))))).drew
  have b3 : ((w3.setCell ⟨pw, 6, none⟩ (.int .i64 ((sp : Int) + (x : Int)))).setCell ⟨pw, 7, none⟩ (.int .i64 ((mo : Int) + (y : Int)))).drew.heap[pw]? = _ := b2
  simp at b3
  have KK := hid kk
  have HN := hid (HW.out.wrote kk b3 (HW.out.l0.kept kk fun _ q => q.2) (HW.out.l1.kept kk fun _ q => q.2))
  clear b1 b2 b3 kk c0 c6 c7 f6 f7 hlt HW
  generalize ((w3.setCell ⟨pw, 6, none⟩ (.int .i64 ((sp : Int) + (x : Int)))).setCell ⟨pw, 7, none⟩ (.int .i64 ((mo : Int) + (y : Int)))).drew = w4 at *
  obtain ⟨c0, c1, c2, c3, c4, c5, c6, c7, cf⟩ := HN.out.cells
  clear c0 c1 c2 c3 c4 c5 cf
  have hlt := HN.out.lt
  go_wp2
  first | go_ret | (go_region; go_wp2; go_ret)
  exact ⟨rfl, (by exact KK.out.drew), sp + x, mo + y, by omega, rfl, by have := HN.out.plain ((Kept.refl _ _).drew); simpa using this⟩
end Go.Proofs.YthfdooigljkfiaaGreat
