/- Several texts in one. -/
import Derived.RangeFuncBox
import Derived.RangeFuncLeaves
import Derived.RangeFuncWrites
import Derived.Shelf.Abstract
import Derived.OwnWalkIn
import Derived.TacticsInMore
import Derived.LoopNIn
import Derived.LoopIn
import Derived.Test.YteibfnclillnnabGreatGf
import Derived.RangeFuncCalls
import Derived.Test.YteibfnclillnnabGreatGc
import Derived.Laws.CopyOwn
/- The library's Backward over the digits: what its rounds are handed. -/
namespace Go.Proofs.YteibfnclillnnabGreat
open Go.ChangeShapes Go.WideShapes Go.ChangeAt Go.RowKit Go.Shelf
attribute [local go_sem] Oper.semAt_some

/-- the last k of sixteen, from the end on -/
def dn (zs : List Int) : Nat → List (Nat × Int)
  | 0 => []
  | k + 1 => dn zs k ++ [(15 - k, zs[15 - k]?.getD 0)]
theorem dn_length (zs : List Int) : ∀ k, (dn zs k).length = k
  | 0 => rfl
  | k + 1 => by simp only [dn, List.length_append, dn_length zs k]; rfl
/-- the two blocks that the iterator reads are as they were -/
def Kp2 (x y : Nat) (A B : World) : Prop := B.heap[x]? = A.heap[x]? ∧ B.heap[y]? = A.heap[y]?

set_option maxRecDepth 100000 in
set_option maxHeartbeats 1000000 in
theorem backward1_in (F : Fence) (n : Nat) (h97 : F.fn 107) (hro : F.round = none) (hn : 1 ≤ n) (l Bs dg cap : Nat) (zs : List Int) (J Jx : List (Nat × Int) → World → Prop)
    (hY : ∀ pre x W, J pre W → pre.length < 16 → YieldAt F (n - 1) Tryz.prog l #[.int .i64 (x.1 : Int), .int .i64 x.2] W fun e W' =>
      (e = .returned (.bool true) ∧ J (pre ++ [x]) W' ∧ Kp2 Bs dg W W') ∨ (e = .returned (.bool false) ∧ Jx (pre ++ [x]) W'))
    (W : World) (hBs : W.cell? ⟨Bs, 0, none⟩ = some (.slice (some ⟨dg, 0, none⟩) 16 cap)) (hc : ∀ j, j < 16 → W.cell? ⟨dg, j, none⟩ = some (.int .i64 (zs[j]?.getD 0))) (h0 : J [] W) :
    CallsIn F n Tryz.prog 107 #[.func (.yield l) #[] #[], .pointer (some ⟨Bs, 0, none⟩)] W fun e W' => (∃ v, e = .returned v) ∧
      ((∃ ys, ys = dn zs 16 ∧ J ys W') ∨ (∃ pre, Jx pre W')) := by
  refine callsIn_of_wp Tryz.func107 rfl h97 ?_ hro
  simp only [Tryz.ntmps107, List.size_toArray, List.length_cons, List.length_nil, Nat.reduceAdd, Nat.reduceSub, Array.replicate_succ, Array.replicate_zero, List.push_toArray, List.append_toArray, List.nil_append, List.cons_append]
  gi_wp2
  gi_loopw [3] (fun iv wr => ∃ k : Nat, k ≤ 16 ∧ iv = .int .i64 (15 - (k : Int)) ∧ J (dn zs k) wr ∧ Kp2 Bs dg W wr)
    (fun iv _ => (intOf iv + 1).toNat)
  case atStart => exact ⟨0, Nat.zero_le _, rfl, h0, rfl, rfl⟩
  case round =>
    obtain ⟨k, hk, rfl, hJs, hk1, hk2⟩ := hrel
    have hbs : wr.cell? ⟨Bs, 0, none⟩ = some (.slice (some ⟨dg, 0, none⟩) 16 cap) := (World.cell?_of_block (w := W) hk1).trans hBs
    by_cases hlt : k < 16
    · obtain ⟨i, hi⟩ : ∃ i : Nat, 15 - (k : Int) = (i : Int) := ⟨15 - k, by omega⟩
      have hik : i = 15 - k := by omega
      have hcx : wr.cell? ⟨dg, i, none⟩ = some (.int .i64 (zs[i]?.getD 0)) := (World.cell?_of_block (w := W) hk2).trans (hc i (by omega))
      obtain ⟨fn, tmps, assign, body, hy, hR⟩ := hY _ (i, zs[i]?.getD 0) wr hJs (by rw [dn_length]; exact hlt)
      dsimp only at hy
      have hDN : dn zs (k + 1) = dn zs k ++ [(i, zs[i]?.getD 0)] := by rw [hik]; rfl
      have HDN : Hid (dn zs (k + 1) = dn zs k ++ [(i, zs[i]?.getD 0)]) := hDN
      have hi15 : i < 16 := by omega
      have HIK : Hid (i = 15 - k) := hik
      have HI : Hid (15 - (k : Int) = (i : Int)) := hi
      rw [hi]
      clear hDN hik hi
      gi_wp2
      refine hR.mono ?_
      rintro e W3 (⟨rfl, hJ3, hk3⟩ | ⟨rfl, hJx3⟩)
      · gi_wp2
        go_roundw
        case rel => exact ⟨k + 1, by omega, by have := HI.out; go_num, by rw [HDN.out]; exact hJ3, hk3.1.trans hk1, hk3.2.trans hk2⟩
        case measure => simp [intOf] <;> omega
      · gi_wp2
        refine bodyPost_ret (results_none rfl _ _ _) rfl ?_
        exact ⟨⟨_, rfl⟩, .inr ⟨_, hJx3⟩⟩
    · obtain rfl : k = 16 := by omega
      gi_wp2
      go_end0
      exact ⟨⟨_, rfl⟩, .inl ⟨_, rfl, hJs⟩⟩

set_option maxHeartbeats 1000000 in
theorem backward_in (F : Fence) (n : Nat) (h89 : F.fn 92) (hro : F.round = none) (a : Option Addr) (len cap : Nat) (w : World) :
    CallsIn F n Tryz.prog 92 #[.slice a len cap] w fun e w' => e = .returned (.func (.func 107) #[] #[.pointer (some ⟨w.heap.size, 0, none⟩)]) ∧ w' = w.alloc (.cells #[.slice a len cap] 23) := by
  refine callsIn_of_wp Tryz.func92 rfl h89 ?_ hro
  simp only [Tryz.ntmps92, List.size_toArray, List.length_cons, List.length_nil, Nat.reduceAdd, Nat.reduceSub, Array.replicate_succ, Array.replicate_zero, List.push_toArray, List.append_toArray, List.nil_append, List.cons_append]
  gi_wp2
  go_ret
  exact ⟨rfl, rfl⟩
end Go.Proofs.YteibfnclillnnabGreat

/- The walk of row: the digits made a heap's trees. -/
namespace Go.Proofs.YteibfnclillnnabGreat
open Go.ChangeShapes Go.WideShapes Go.ChangeAt Go.RowKit Go.Shelf
attribute [local go_sem] Oper.semAt_some

/-- one digit: the tree that is there leads to the next one above -/
def rstep (p : St × Int) (x : Nat × Int) : St × Int := if x.2 = -1 then p else (setS p.1 x.2 3 p.2, x.2)
theorem rstep_steps (p : St × Int) (x : Nat × Int) : p.1.steps ≤ (rstep p x).1.steps ∧ (rstep p x).1.steps ≤ p.1.steps + 1 := by
  unfold rstep
  split
  · exact ⟨Nat.le_refl _, by omega⟩
  · simp only [set_steps]; omega
theorem rfold_steps : ∀ (l : List (Nat × Int)) (p : St × Int), p.1.steps ≤ (l.foldl rstep p).1.steps ∧ (l.foldl rstep p).1.steps ≤ p.1.steps + l.length
  | [], p => ⟨Nat.le_refl _, Nat.le_refl _⟩
  | x :: r, p => by
    have h1 := rstep_steps p x
    have h2 := rfold_steps r (rstep p x)
    simp only [List.foldl_cons, List.length_cons]
    omega

theorem backward_stops (F : Fence) (n : Nat) (h97 : F.fn 107) (hro : F.round = none) (hn : 1 ≤ n) (Bs dg cap : Nat) (zs : List Int) (w : World) (hb : Bs < w.heap.size) (hd : dg < w.heap.size)
    (hBs : w.cell? ⟨Bs, 0, none⟩ = some (.slice (some ⟨dg, 0, none⟩) 16 cap)) (hc : ∀ j, j < 16 → w.cell? ⟨dg, j, none⟩ = some (.int .i64 (zs[j]?.getD 0))) :
    SeqStopsK F n Tryz.prog 107 #[.pointer (some ⟨Bs, 0, none⟩)] (fun x : Nat × Int => #[.int .i64 (x.1 : Int), .int .i64 x.2]) (Kp2 Bs dg) (fun xs => xs = dn zs 16) (fun _ => True) 16 w := by
  intro l J Jx W hW hJ hJx hY h0
  refine (backward1_in F n h97 hro hn l Bs dg cap zs J Jx hY W ((hW.cell (p := ⟨Bs, 0, none⟩) hb).trans hBs) (fun j hj => (hW.cell (p := ⟨dg, j, none⟩) hd).trans (hc j hj)) h0).mono ?_
  rintro e W' ⟨hv, h | ⟨pre, h⟩⟩
  · exact ⟨hv, .inl h⟩
  · exact ⟨hv, .inr ⟨pre, trivial, h⟩⟩

section
variable {F : Nat → Prop} {w w' : World} {pa pm : Nat} {s0 s s' : St}
set_option maxRecDepth 100000 in
set_option maxHeartbeats 4000000 in
theorem rowT (dg cap : Nat) (zs : List Int) (hdg : ¬ F dg) (hd : dg < w.heap.size) (hc : ∀ j, j < 16 → w.cell? ⟨dg, j, none⟩ = some (.int .i64 (zs[j]?.getD 0))) (h : IsA w F pa pm s) (hs : s.steps ≤ 99990000) :
    Calls Tryz.prog 85 #[.pointer (some ⟨pa, 0, none⟩), .slice (some ⟨dg, 0, none⟩) 16 cap] w fun e w' =>
      e = .returned (.int .i64 ((dn zs 16).foldl rstep (s, -1)).2) ∧ IsA w' F pa pm ((dn zs 16).foldl rstep (s, -1)).1 ∧ Kept F w w' := by
  refine (callsIn_wide (n := 6)).1 ?_
  refine callsIn_of_wp_marks Tryz.func85 rfl trivial ?_ rfl
  simp only [Tryz.ntmps85, List.size_toArray, List.length_cons, List.length_nil, Nat.reduceAdd, Nat.reduceSub, Array.replicate_succ, Array.replicate_zero, List.push_toArray, List.append_toArray, List.nil_append, List.cons_append]
  gi_wp2
  refine ⟨trivial, (backward_in _ _ trivial rfl _ _ _ _).mono ?_⟩
  rintro e w' ⟨rfl, rfl⟩
  gi_wp2
  obtain ⟨w3, hw3⟩ : ∃ w3, w3 = (((w.alloc (Obj.cells #[Value.pointer (some ⟨pa, 0, none⟩)] 28)).alloc (Obj.cells #[Value.int IntKind.i64 (-1)] 3)).alloc (Obj.cells #[Value.slice (some ⟨dg, 0, none⟩) 16 cap] 23)) := ⟨_, rfl⟩
  have sz : w3.heap.size = w.heap.size + 3 := by rw [hw3]; simp
  have bA : w3.heap[w.heap.size]? = some (.cells #[.pointer (some ⟨pa, 0, none⟩)] 28 (0, 0)) := by
    rw [hw3]
    have e1 := heap_alloc_new w (.cells #[.pointer (some ⟨pa, 0, none⟩)] 28)
    have e2 := (Below.heap_alloc _ (.cells #[.int .i64 (-1)] 3) _ (lt_of_block e1)).trans e1
    exact (Below.heap_alloc _ _ _ (lt_of_block e2)).trans e2
  have bN : w3.heap[w.heap.size + 1]? = some (.cells #[.int .i64 (-1)] 3 (0, 0)) := by
    rw [hw3]
    have e1 := heap_alloc_new (w.alloc (.cells #[.pointer (some ⟨pa, 0, none⟩)] 28)) (.cells #[.int .i64 (-1)] 3)
    rw [World.size_alloc] at e1
    exact (Below.heap_alloc _ _ _ (lt_of_block e1)).trans e1
  have bB : w3.heap[w.heap.size + 1 + 1]? = some (.cells #[.slice (some ⟨dg, 0, none⟩) 16 cap] 23 (0, 0)) := by
    rw [hw3]
    have e1 := heap_alloc_new ((w.alloc (.cells #[.pointer (some ⟨pa, 0, none⟩)] 28)).alloc (.cells #[.int .i64 (-1)] 3)) (.cells #[.slice (some ⟨dg, 0, none⟩) 16 cap] 23)
    rw [World.size_alloc, World.size_alloc] at e1
    exact e1
  have k3 : Kept (fun _ => False) w w3 := by rw [hw3]; exact (((Kept.refl _ _).alloc _).alloc _).alloc _
  have HFL := h.lt
  have hA3 : IsA w3 F pa pm s := h.kept k3 fun _ _ e => e
  have hc3 : ∀ j, j < 16 → w3.cell? ⟨dg, j, none⟩ = some (.int .i64 (zs[j]?.getD 0)) := fun j hj => (k3.cell (p := ⟨dg, j, none⟩) hd (fun e => e)).trans (hc j hj)
  rw [← hw3]
  refine wpIn_rangeFunc_ownG rfl (by omega) (gf := 107) (lb := #[.pointer (some ⟨w.heap.size + 1 + 1, 0, none⟩)]) rfl trivial (enters_of Tryz.func107 (by kernel_rfl) rfl)
    (backward_stops Fence.wide 5 trivial rfl (by omega) (w.heap.size + 1 + 1) dg cap zs w3 (by omega) (by omega) (blk_cell bB rfl) hc3)
    (fun h1 h2 => ⟨h2.1.trans h1.1, h2.2.trans h1.2⟩) (fun W l o o' hl _ _ _ => ⟨World.putObj_heap_other (by omega), World.putObj_heap_other (by omega)⟩) (Below.refl _ _) (fun _ => rfl)
    (fun pre W => W.heap[w.heap.size]? = some (.cells #[.pointer (some ⟨pa, 0, none⟩)] 28 (0, 0)) ∧ W.heap[w.heap.size + 1]? = some (.cells #[.int .i64 (pre.foldl rstep (s, -1)).2] 3 (0, 0)) ∧ IsA W F pa pm (pre.foldl rstep (s, -1)).1 ∧ Kept F w W ∧ w.heap.size + 3 ≤ W.heap.size)
    (fun _ _ _ => False) ?own (fun _ _ _ _ _ hs _ _ => hs) ⟨bA, bN, hA3, k3.any, by omega⟩
    (fun x => { tmps := #[.pointer (some ⟨pa, 0, none⟩), .slice (some ⟨dg, 0, none⟩) 16 cap, .pointer (some ⟨w.heap.size, 0, none⟩), undef, .int .i64 0, .pointer (some ⟨w.heap.size + 1, 0, none⟩), undef, .int .i64 x.2, .slice (some ⟨dg, 0, none⟩) 16 cap, .func (.func 107) #[] #[.pointer (some ⟨w.heap.size + 1 + 1, 0, none⟩)], .int .i64 (x.1 : Int), .int .i64 x.2, undef, undef, undef, undef, undef, undef, undef, undef], defers := [] }) ?assign ?body ?done ?stop
  case own =>
    rintro pre W W' row ⟨h1, h2, h3, h4, h5⟩ hg hr
    have ne : ∀ k, k < w3.heap.size → some k ≠ row := fun k hk e => by have := (hr k e.symm).1; omega
    refine ⟨(hg.block _ (lt_of_block h1) (ne _ (by omega))).trans h1, (hg.block _ (lt_of_block h2) (ne _ (by omega))).trans h2, h3.kept (G := fun k => row = some k) ⟨hg.os, hg.tape, hg.output, hg.size, fun k hk hn => hg.block k hk fun e => hn e.symm⟩ (fun k hk e => by have := HFL k hk; exact ne k (by omega) e.symm), h4.grown hg (fun k e => Or.inr (by have := (hr k e).1; omega)), Nat.le_trans h5 hg.size⟩
  case assign =>
    intro l x W K hK
    gi_wp2
    exact hK
  case body =>
    rintro l pre x W ⟨h1, h2, h3, h4, h5⟩ hlen
    have ca := blk_cell (j := 0) h1 rfl
    have cn := blk_cell (j := 0) h2 rfl
    have hst := rfold_steps pre (s, -1)
    have FO : Hid ((pre ++ [x]).foldl rstep (s, -1) = rstep (pre.foldl rstep (s, -1)) x) := hid (by rw [List.foldl_append]; rfl)
    obtain ⟨r, hr⟩ : ∃ r, r = pre.foldl rstep (s, -1) := ⟨_, rfl⟩
    rw [← hr] at cn h2 h3 hst FO
    clear hr
    obtain ⟨r1, r2⟩ := r
    simp only at cn h2 h3 hst FO
    have b97 : Kp2 (w.heap.size + 1 + 1) dg W W := ⟨rfl, rfl⟩
    by_cases hx : x.2 = -1
    · have FX := hid (show rstep (r1, r2) x = (r1, r2) from if_pos hx)
      have hx' : (x.2 != -1) = false := by simp [hx]
      have P1 := hid h1
      have P2 := hid h2
      have P3 := hid h3
      have P4 := hid h4
      clear hx h1 h2 h3 h4 ca cn
      gi_wp2
      exact ⟨KeepsFrom.refl _ _, b97, P1.out, by rw [FO.out, FX.out]; exact P2.out, by rw [FO.out, FX.out]; exact P3.out, P4.out, h5⟩
    · have FX := hid (show rstep (r1, r2) x = (setS r1 x.2 3 r2, x.2) from if_neg hx)
      have hx' : (x.2 != -1) = true := by simp [hx]
      have ST := hid (setT x.2 3 r2 (Ex.start h3) (by omega))
      have P1 := hid h1
      have P2 := hid h2
      have P4 := hid h4
      have HDG := hid hdg
      have nA : Hid (¬ F w.heap.size) := hid (fun e => by have := HFL _ e; omega)
      have nN : Hid (¬ F (w.heap.size + 1)) := hid (fun e => by have := HFL _ e; omega)
      have nB : Hid (¬ F (w.heap.size + 1 + 1)) := hid (fun e => by have := HFL _ e; omega)
      have HF := hid HFL
      have hsz := h4.size
      have ltA := lt_of_block h1
      have ltN := lt_of_block h2
      clear hx h1 h2 h3 h4
      gi_wp2
      refine ⟨trivial, (CallsIn.inRound l (callsIn_wide.2 ST.out)).mono ?_⟩
      rintro e W2 ⟨rfl, e2⟩
      have q2 := (e2.kept.block _ ltN nN.out).trans P2.out
      have q1 := (e2.kept.block _ ltA nA.out).trans P1.out
      have cn2 := blk_cell (j := 0) q2 rfl
      have fn2 := blk_free (j := 0) q2
      have E2 := hid e2
      have Q1 := hid q1
      have Q2 := hid q2
      clear e2 q1 q2 ST
      gi_wp2
      refine ⟨⟨by simpa using E2.out.kept.size, fun k o hB hk _ => ?_⟩, ⟨?_, ?_⟩, ?_, ?_, ?_, ?_, ?_⟩
      · have hkW : k < W.heap.size := lt_of_block hk
        rw [Below.heap_setCell _ _ _ _ (by show k ≠ w.heap.size + 1; omega)]
        exact (E2.out.kept.block k hkW (fun e => by have := HF.out k e; omega)).trans hk
      · rw [Below.heap_setCell _ _ _ _ (by show w.heap.size + 1 + 1 ≠ w.heap.size + 1; omega)]
        exact E2.out.kept.block _ (by omega) nB.out
      · rw [Below.heap_setCell _ _ _ _ (by show dg ≠ w.heap.size + 1; omega)]
        exact E2.out.kept.block _ (by omega) HDG.out
      · rw [Below.heap_setCell _ _ _ _ (by show w.heap.size ≠ w.heap.size + 1; omega)]
        exact Q1.out
      · rw [FO.out, FX.out]
        have := blk_set (j := 0) (u := .int .i64 x.2) Q2.out
        simpa using this
      · rw [FO.out, FX.out]
        exact E2.out.is.kept ((Kept.refl (fun k => k = w.heap.size + 1) _).setCell (Or.inl rfl) _) (fun k hk e => nN.out (e ▸ hk))
      · exact (P4.out.trans' E2.out.kept).setCell (Or.inr (by show w.heap.size ≤ w.heap.size + 1; omega)) _
      · have := E2.out.kept.size; simp; omega
  case done =>
    rintro D ys W hD rfl ⟨h1, h2, h3, h4, h5⟩ hK
    have cn := blk_cell (j := 0) h2 rfl
    have P3 := hid h3
    have P4 := hid h4
    have HK := hid hK
    have hD' : w.heap.size ≤ D := by omega
    have ltN := lt_of_block h2
    clear h1 h2 h3 h4
    gi_wp2
    refine ⟨by simp, .inl ⟨_, _, rfl, run_takeDeferred HK.out, ?_⟩⟩
    refine ⟨_, results_tmp rfl _ _ _, rfl, ?_, ?_⟩
    · exact P3.out.kept (G := fun k => k = D) ⟨rfl, rfl, rfl, by simp, fun k _ hn => World.putObj_heap_other hn⟩ (fun k hk e => by have := HFL k hk; omega)
    · exact ⟨P4.out.os, P4.out.tape, P4.out.output, by simpa using P4.out.size, fun k hk hn => (World.putObj_heap_other (by omega)).trans (P4.out.block k hk hn)⟩
  case stop =>
    rintro D c pre W _ _ h _
    exact h.elim
end
end Go.Proofs.YteibfnclillnnabGreat

/- What row makes of the digits: a heap's trees, the lowest Rank first. -/
namespace Go.Proofs.YteibfnclillnnabGreat
open Go.ChangeShapes Go.WideShapes Go.ChangeAt Go.RowKit
open Tr

def rfst (o : Option Bn) (p : St × Int) : St × Int := match o with
  | none => p
  | some b => (setS p.1 (b.n : Int) 3 p.2, (b.n : Int))
theorem dn_fold (D : List (Option Bn)) (hl : D.length = 16) (p : St × Int) : ∀ k, k ≤ 16 → (dn (D.map dig) k).foldl rstep p = (D.drop (16 - k)).foldr rfst p
  | 0, _ => by simp [dn, List.drop_of_length_le (show D.length ≤ 16 by omega)]
  | k + 1, hk => by
    have ih := dn_fold D hl p k (by omega)
    have hi : 15 - k < D.length := by omega
    simp only [dn, List.foldl_append, List.foldl_cons, List.foldl_nil, ih]
    rw [show 16 - (k + 1) = 15 - k by omega, List.drop_eq_getElem_cons hi, show 15 - k + 1 = 16 - k by omega, List.foldr_cons]
    generalize (D.drop (16 - k)).foldr rfst p = q
    have e : (D.map dig)[15 - k]?.getD 0 = dig D[15 - k] := by rw [List.getElem?_map, List.getElem?_eq_getElem hi]; rfl
    rw [e]
    cases D[15 - k] with
    | none => simp [rstep, rfst, dig]
    | some b => simp [rstep, rfst, dig]
theorem fold_all (D : List (Option Bn)) (hl : D.length = 16) (p : St × Int) : (dn (D.map dig) 16).foldl rstep p = D.foldr rfst p := dn_fold D hl p 16 (Nat.le_refl _)

/-- the trees among digits -/
def trs (D : List (Option Bn)) : List Bn := D.filterMap id
theorem trs_col (g : Bn → List Nat) : ∀ D : List (Option Bn), (trs D).flatMap g = col g D
  | [] => rfl
  | none :: r => by have := trs_col g r; simpa [trs, col] using this
  | some b :: r => by have := trs_col g r; simp only [trs] at this; simp [trs, col, this]

/-- from one Rank on, rising -/
def Ris (last : Int) : List Bn → Prop
  | [] => True
  | b :: r => last < (b.rk : Int) ∧ Ris (b.rk : Int) r
theorem Ris.low {l : List Bn} {a b : Int} (h : Ris a l) (hab : b ≤ a) : Ris b l := by
  cases l with
  | nil => trivial
  | cons x r => exact ⟨by have := h.1; omega, h.2⟩
theorem ris_dig : ∀ (D : List (Option Bn)) (k : Nat), (∀ j b, D[j]? = some (some b) → b.rk = k + j) → Ris ((k : Int) - 1) (trs D)
  | [], _, _ => trivial
  | o :: r, k, h => by
    have ih := ris_dig r (k + 1) fun j b hb => by have := h (j + 1) b (by simpa using hb); omega
    cases o with
    | none =>
      have : trs (none :: r) = trs r := by simp [trs]
      rw [this]
      exact ih.low (by omega)
    | some b =>
      have e : trs (some b :: r) = b :: trs r := by simp [trs]
      have hb := h 0 b (by simp)
      rw [e]
      exact ⟨by omega, ih.low (by omega)⟩

/-- behind row: each tree leads to the next one -/
theorem row_view {s : St} (ok : Ok s) : ∀ (D : List (Option Bn)), (∀ b ∈ trs D, LS s b.n = true) → ((trs D).map Bn.n).Nodup →
    Sm s (D.foldr rfst (s, -1)).1 ∧ (D.foldr rfst (s, -1)).2 = headr (trs D) ∧ (D.foldr rfst (s, -1)).1.steps ≤ s.steps + (trs D).length ∧ s.steps ≤ (D.foldr rfst (s, -1)).1.steps ∧
      (∀ c j, (j = 3 → c ∉ (trs D).map Bn.n) → hasS (D.foldr rfst (s, -1)).1 c j = hasS s c j) ∧
      ∀ last, Ris last (trs D) → Chn (hasS (D.foldr rfst (s, -1)).1) last (trs D)
  | [], _, _ => ⟨Sm.refl ok, rfl, by simp [trs], Nat.le_refl _, fun _ _ _ => rfl, fun _ _ => trivial⟩
  | none :: r, h, hn => by
    have e : trs (none :: r) = trs r := by simp [trs]
    rw [e] at h hn ⊢
    exact row_view ok r h hn
  | some b :: r, h, hn => by
    have e : trs (some b :: r) = b :: trs r := by simp [trs]
    rw [e] at h hn ⊢
    simp only [List.map_cons, List.nodup_cons] at hn
    obtain ⟨h1, h2, h3, h3', h4, h5⟩ := row_view ok r (fun c hc => h c (by simp [hc])) hn.2
    simp only [List.foldr_cons, rfst]
    generalize r.foldr rfst (s, -1) = p at h1 h2 h3 h3' h4 h5
    obtain ⟨s1, nx⟩ := p
    simp only at h1 h2 h3 h3' h4 h5 ⊢
    have lb : LS s1 b.n = true := by rw [h1.ls]; exact h b (by simp)
    have hv : hasS (setS s1 (b.n : Int) 3 nx) = put (hasS s1) b.n 3 nx := set_has (j := 3) lb (by omega)
    refine ⟨h1.trans (Sm.set h1.ok _ _ _), rfl, ?_, ?_, fun c j hc => ?_, fun last hl => ?_⟩
    · rw [set_steps]; simp only [List.length_cons]; omega
    · rw [set_steps]; omega
    · rw [hv, put_or (by
        by_cases q : c = b.n
        · exact Or.inr fun z => by have := hc z; simp [q] at this
        · exact Or.inl q)]
      exact h4 c j fun z => by have := hc z; simp at this; simpa using this.2
    · refine ⟨hl.1, by rw [hv, put_at, h2], ?_⟩
      have hch := h5 _ hl.2
      rw [hv]
      -- the others' Rights are as they were
      have keep : ∀ (l : List Bn) (x : Int), b.n ∉ l.map Bn.n → Chn (hasS s1) x l → Chn (put (hasS s1) b.n 3 nx) x l := fun l => by
        induction l with
        | nil => intro _ _ _; trivial
        | cons y t ih =>
          intro x hy hc
          simp only [List.map_cons, List.mem_cons, not_or] at hy
          exact ⟨hc.1, by rw [put_ne (fun z => hy.1 z.symm)]; exact hc.2.1, ih _ hy.2 hc.2.2⟩
      exact keep _ _ hn.1 hch
end Go.Proofs.YteibfnclillnnabGreat

/- A heap's trees as they lie behind a sum. -/
namespace Go.Proofs.YteibfnclillnnabGreat
open Go.ChangeShapes Go.WideShapes Go.ChangeAt Go.RowKit
open Tr

/-- a heap: its trees, the lowest Rank first -/
structure Bh (lt : Nat → Nat → Bool) (s : St) (ts : List Bn) : Prop where
  vb : ∀ b ∈ ts, Vb (LS s) (hasS s) b ∧ Gb lt b
  ch : Chs (hasS s) 0 (-1) ts
  nd : (ts.flatMap Bn.cells).Nodup
  rk : ∀ b ∈ ts, b.rk < 16
  ln : ts.length ≤ 17

theorem trs_mem {D : List (Option Bn)} {b : Bn} (h : b ∈ trs D) : ∃ k : Nat, D[k]? = some (some b) := by
  simp only [trs, List.mem_filterMap, id] at h
  obtain ⟨o, ho, rfl⟩ := h
  exact List.getElem?_of_mem ho

theorem tops_nodup : ∀ {ts : List Bn}, (ts.flatMap Bn.cells).Nodup → (ts.map Bn.n).Nodup
  | [], _ => by simp
  | b :: r, h => by
    simp only [List.flatMap_cons, List.nodup_append] at h
    simp only [List.map_cons, List.nodup_cons]
    refine ⟨fun e => ?_, tops_nodup h.2.1⟩
    obtain ⟨c, hc, e⟩ := List.mem_map.1 e
    exact h.2.2 b.n (by simp [Bn.cells]) b.n (List.mem_flatMap.2 ⟨c, hc, by simp [Bn.cells, e]⟩) rfl

theorem one_tree : ∀ {ts : List Bn}, (ts.flatMap Bn.cells).Nodup → ∀ {a b : Bn} {c : Nat}, a ∈ ts → b ∈ ts → c ∈ a.cells → c ∈ b.cells → a = b
  | [], _, _, _, _, h, _, _, _ => by cases h
  | x :: r, h, a, b, c, ha, hb, ca, cb => by
    simp only [List.flatMap_cons, List.nodup_append] at h
    rcases List.mem_cons.1 ha with e1 | ha1 <;> rcases List.mem_cons.1 hb with e2 | hb1
    · rw [e1, e2]
    · exact absurd rfl (h.2.2 c (e1 ▸ ca) c (List.mem_flatMap.2 ⟨b, hb1, cb⟩))
    · exact absurd rfl (h.2.2 c (e2 ▸ cb) c (List.mem_flatMap.2 ⟨a, ha1, ca⟩))
    · exact one_tree h.2.1 ha1 hb1 ca cb

theorem sum_view {lt : Nat → Nat → Bool} {s0 s : St} {D : List (Option Bn)} (h : Dg lt s0 s D []) :
    Bh lt (D.foldr rfst (s, -1)).1 (trs D) ∧ (D.foldr rfst (s, -1)).2 = headr (trs D) ∧ Sm s0 (D.foldr rfst (s, -1)).1 ∧ (D.foldr rfst (s, -1)).1.steps ≤ s.steps + 16 ∧ s.steps ≤ (D.foldr rfst (s, -1)).1.steps ∧
      (∀ c, hasS (D.foldr rfst (s, -1)).1 c 7 = hasS s0 c 7 ∧ hasS (D.foldr rfst (s, -1)).1 c 8 = hasS s0 c 8) ∧
      ∀ c, c ∉ (trs D).flatMap Bn.cells → ∀ j, hasS (D.foldr rfst (s, -1)).1 c j = hasS s0 c j := by
  have hnd : ((trs D).flatMap Bn.cells).Nodup := by rw [trs_col]; have := h.nd; simpa using this
  have hdv : ∀ b ∈ trs D, Vb (LS s) (hasS s) b ∧ Gb lt b ∧ b.rk < 16 := fun b hb => by
    obtain ⟨k, hk⟩ := trs_mem hb
    have := h.dv k b hk
    have hl := (List.getElem?_eq_some_iff.1 hk).1
    have := h.len
    exact ⟨(h.dv k b hk).2.1, (h.dv k b hk).2.2, by rw [(h.dv k b hk).1]; omega⟩
  have hlen : (trs D).length ≤ 16 := by rw [← h.len]; exact List.length_filterMap_le _ _
  obtain ⟨r1, r2, r3, r4, r5, r6⟩ := row_view h.sm.ok D (fun b hb => (hdv b hb).1.ln) (tops_nodup hnd)
  generalize D.foldr rfst (s, -1) = p at r1 r2 r3 r4 r5 r6
  have hch := r6 (-1) (by
    have := ris_dig D 0 fun j b hb => by rw [Nat.zero_add]; exact (h.dv j b hb).1
    simpa using this)
  refine ⟨⟨fun b hb => ⟨(hdv b hb).1.like (fun c hc => ⟨by rw [r1.ls], fun j hj => r5 c j fun e hm => ?_⟩) ?_, (hdv b hb).2.1⟩, hch.chs, hnd, fun b hb => (hdv b hb).2.2, by omega⟩, r2, h.sm.trans r1, by omega, r4, fun c => ?_, fun c hc j => ?_⟩
  · obtain ⟨b', hb', e'⟩ := List.mem_map.1 hm
    have : b = b' := one_tree hnd hb hb' hc (by simp [Bn.cells, e'])
    subst this
    exact hj e'.symm e
  · have := flat_nodup hnd b hb
    simp only [Bn.cells, List.nodup_cons, List.mem_cons, not_or] at this
    exact this.1.2
  · exact ⟨(r5 c 7 (by omega)).trans (h.key c).1, (r5 c 8 (by omega)).trans (h.key c).2⟩
  · have h1 : c ∉ (trs D).map Bn.n := fun e => by
      obtain ⟨b, hb, e⟩ := List.mem_map.1 e
      exact hc (List.mem_flatMap.2 ⟨b, hb, by simp [Bn.cells, e]⟩)
    have h2 : c ∉ col Bn.cells D ++ ([] : List Bn).flatMap Bn.cells := by rw [trs_col] at hc; simpa using hc
    exact (r5 c j fun _ => h1).trans (h.oth c h2 j)
end Go.Proofs.YteibfnclillnnabGreat

/- A node that is taken: a tree of one beside the others. -/
namespace Go.Proofs.YteibfnclillnnabGreat
open Go.ChangeShapes Go.WideShapes Go.ChangeAt Go.RowKit
open Tr

/-- the state behind node.New, where there is room -/
def puB (s : St) (i : Int) : St := setS (setS (takeS (tk s 1)) (nextS s) 6 i) i 9 (nextS s)

theorem bpu_view {s : St} {ts : List Bn} {i : Nat} (lt : Nat → Nat → Bool) (ok : Ok s) (li0 : LS s i = true) (hi : i ∉ ts.flatMap Bn.cells) (hv : ∀ b ∈ ts, Vb (LS s) (hasS s) b) (hnd : (ts.flatMap Bn.cells).Nodup) (hx : 0 ≤ nextS s) :
    ∃ n : Nat, nextS s = (n : Int) ∧ LS s n = false ∧ LS (takeS (tk s 1)) n = true ∧ LS (takeS (tk s 1)) i = true ∧ n ≠ i ∧ n ∉ ts.flatMap Bn.cells ∧ Ok (puB s (i : Int)) ∧
      (∀ b ∈ ts, Vb (LS (puB s (i : Int))) (hasS (puB s (i : Int))) b) ∧ Vb (LS (puB s (i : Int))) (hasS (puB s (i : Int))) ⟨n, i, lf⟩ ∧ Gb lt ⟨n, i, lf⟩ ∧ cnt (puB s (i : Int)).pl = cnt s.pl + 1 ∧
      (∀ c, c ≠ n → LS (puB s (i : Int)) c = LS s c) ∧ ∀ c j, c ≠ n → (c ≠ i ∨ j ≠ 9) → hasS (puB s (i : Int)) c j = hasS s c j := by
  have hk1 := Sm.tk ok 1
  obtain ⟨n, e, h1, h2, h3, h4⟩ := take_view hk1.ok (show 0 ≤ nextS (tk s 1) from hx)
  have e' : nextS s = (n : Int) := e
  have hni : n ≠ i := fun q => by subst q; rw [show LS (tk s 1) n = LS s n from rfl, li0] at h1; cases h1
  have ok1 := hk1.ok.take
  have ln : LS (takeS (tk s 1)) n = true := by rw [h2, if_pos rfl]
  have li : LS (takeS (tk s 1)) i = true := by rw [h2, if_neg (fun q => hni q.symm)]; exact li0
  have hne : ∀ b ∈ ts, ∀ c ∈ b.cells, c ≠ n := fun b hb c hc q => by subst q; rw [show LS (tk s 1) c = LS s c from rfl, (hv b hb).live c hc] at h1; cases h1
  refine ⟨n, e', h1, ln, li, hni, fun q => ?_, ?_⟩
  · obtain ⟨b, hb, hc⟩ := List.mem_flatMap.1 q
    exact hne b hb n hc rfl
  unfold puB
  rw [e']
  have m1 := Sm.set ok1 (n : Int) 6 (i : Int)
  have v1 : hasS (setS (takeS (tk s 1)) (n : Int) 6 (i : Int)) = put (hasS (takeS (tk s 1))) n 6 (i : Int) := set_has (j := 6) ln (by decide)
  have m2 := m1.trans (Sm.set m1.ok (i : Int) 9 (n : Int))
  have v2 : hasS (setS (setS (takeS (tk s 1)) (n : Int) 6 (i : Int)) (i : Int) 9 (n : Int)) = put (put (hasS (takeS (tk s 1))) n 6 (i : Int)) i 9 (n : Int) := by rw [← v1]; exact set_has (j := 9) (by rw [m1.ls]; exact li) (by decide)
  generalize setS (setS (takeS (tk s 1)) (n : Int) 6 (i : Int)) (i : Int) 9 (n : Int) = s3 at *
  have hl : ∀ c, c ≠ n → LS s3 c = LS s c := fun c hc => by rw [m2.ls, h2, if_neg hc]; rfl
  have hj : ∀ c j, c ≠ n → (c ≠ i ∨ j ≠ 9) → hasS s3 c j = hasS s c j := fun c j hc hi => by
    rw [v2, put_or hi, put_ne hc, h3, if_neg hc]; rfl
  have vn : ∀ j, j ≠ 6 → hasS s3 n j = fr j := fun j q6 => by rw [v2, put_ne hni, put_nj q6, h3, if_pos rfl]
  refine ⟨m2.ok, fun b hb => (hv b hb).like (fun c hc => ⟨hl c (hne b hb c hc), fun j _ => hj c j (hne b hb c hc) (Or.inl fun q => hi (List.mem_flatMap.2 ⟨b, hb, q ▸ hc⟩))⟩) ?_, ⟨?_, ?_, ?_, ?_, ?_, ?_, ?_, ?_, ?_⟩, ⟨trivial, trivial⟩, ?_, hl, hj⟩
  · have := flat_nodup hnd b hb
    simp only [Bn.cells, List.nodup_cons, List.mem_cons, not_or] at this
    exact this.1.2
  · show LS s3 n = true
    rw [m2.ls]; exact ln
  · show LS s3 i = true
    rw [m2.ls]; exact li
  · rw [vn 0 (by decide)]; rfl
  · rw [vn 1 (by decide)]; rfl
  · rw [vn 2 (by decide)]; rfl
  · rw [vn 4 (by decide)]; rfl
  · show hasS s3 n 6 = (i : Int)
    rw [v2, put_ne hni, put_at]
  · show hasS s3 i 9 = (n : Int)
    rw [v2, put_at]
  · trivial
  · rw [cnt_sm ok1 m2, h4]; rfl
end Go.Proofs.YteibfnclillnnabGreat

/- The children of a node as trees of their own. -/
namespace Go.Proofs.YteibfnclillnnabGreat
open Go.ChangeShapes Go.WideShapes Go.ChangeAt Go.RowKit
open Tr

/-- the trees of a forest -/
def kids : Tr → List Bn
  | lf => []
  | nd n i k r => ⟨n, i, k⟩ :: kids r
theorem kids_tops : ∀ t : Tr, nds (kids t) = tops t
  | lf => rfl
  | nd n i k r => by have := kids_tops r; simp only [nds] at this; simp [kids, nds, tops, this]
theorem kids_len : ∀ t : Tr, (kids t).length = t.rank
  | lf => rfl
  | nd n i k r => by simp [kids, kids_len r, rank]
theorem kids_cells : ∀ t : Tr, (kids t).flatMap Bn.cells = t.cells
  | lf => rfl
  | nd n i k r => by simp [kids, kids_cells r, Bn.cells, cells]
theorem kids_items : ∀ t : Tr, (kids t).flatMap Bn.items = t.items
  | lf => rfl
  | nd n i k r => by simp [kids, kids_items r, Bn.items, items]
theorem kids_gb {lt : Nat → Nat → Bool} : ∀ {u : Nat} {t : Tr}, Kd t → Hu lt u t → ∀ b ∈ kids t, Gb lt b
  | _, lf, _, _, b, hb => by simp [kids] at hb
  | u, nd n i k r, hk, hu, b, hb => by
    simp only [kids, List.mem_cons] at hb
    rcases hb with rfl | hb
    · exact ⟨hk.2.1, hu.2.1⟩
    · exact kids_gb hk.2.2 hu.2.2 b hb

/-- the tops' Ups are taken away: each child is a tree of its own -/
theorem kids_vb {L : Nat → Bool} {f f' : Nat → Nat → Int} : ∀ {up : Int} {t : Tr}, Vw L f up t → t.cells.Nodup → (∀ b ∈ kids t, f' b.n 0 = -1) → (∀ c ∈ t.cells, ∀ j, (j = 0 → c ∉ (kids t).map Bn.n) → f' c j = f c j) → ∀ b ∈ kids t, Vb L f' b
  | _, lf, _, _, _, _, b, hb => by simp [kids] at hb
  | up, nd n i k r, hv, hn, h1, h2, b, hb => by
    simp only [cells, List.nodup_cons, List.mem_cons, List.mem_append, not_or, List.nodup_append] at hn
    obtain ⟨⟨n1, n2, n3⟩, ⟨n4, n5⟩, n6, n7, n8⟩ := hn
    have top : ∀ c, c ∈ (kids r).map Bn.n → c ∈ r.cells := fun c hc => by
      obtain ⟨d, hd, rfl⟩ := List.mem_map.1 hc
      rw [← kids_cells r]
      exact List.mem_flatMap.2 ⟨d, hd, by simp [Bn.cells]⟩
    simp only [kids, List.mem_cons] at hb
    rcases hb with rfl | hb
    · obtain ⟨⟨a1, a2, a3, a4, a5, a6, a7, a8, a9⟩, hk, _⟩ := hv
      have far : ∀ c, c ≠ n → c ∉ r.cells → c ∉ (kids (nd n i k r)).map Bn.n := fun c q1 q2 hm => by
        simp only [kids, List.map_cons, List.mem_cons] at hm
        exact hm.elim q1 fun hm => q2 (top c hm)
      have hn : ∀ j, j ≠ 0 → f' n j = f n j := fun j hj => h2 n (by simp [cells]) j fun e => absurd e hj
      have hi : f' i 9 = f i 9 := h2 i (by simp [cells]) 9 (fun e => by cases e)
      exact ⟨a1, a2, h1 ⟨n, i, k⟩ (by simp [kids]), by rw [hn 1 (by decide)]; exact a4, by rw [hn 2 (by decide)]; exact a5, by rw [hn 4 (by decide)]; exact a7, by rw [hn 6 (by decide)]; exact a8, by rw [hi]; exact a9,
        hk.like fun c hc => ⟨rfl, fun j => h2 c (by simp [cells, hc]) j fun _ => far c (fun e => n2 (e ▸ hc)) (fun e => n8 c hc c e rfl)⟩⟩
    · refine kids_vb (f := f) (t := r) hv.2.2 n7 (fun b hb => h1 b (by simp [kids, hb])) (fun c hc j hj => h2 c (by simp [cells, hc]) j fun e hm => ?_) b hb
      simp only [kids, List.map_cons, List.mem_cons] at hm
      rcases hm with rfl | hm
      · exact n3 hc
      · exact hj e hm
end Go.Proofs.YteibfnclillnnabGreat

/- The walk of the library's Repeat, of sixteen times none: how many numbers that are. -/
namespace Go.Proofs.YteibfnclillnnabGreat
open Go.ChangeShapes Go.WideShapes Go.ChangeAt Go.RowKit

set_option maxHeartbeats 1000000 in
theorem mul64T (w : World) : Calls Tryz.prog 106 #[.int .u64 1, .int .u64 16] w fun e w' => e = .returned (.tuple #[.int .u64 0, .int .u64 16]) ∧ w' = w := by
  go_enter Tryz.func106, Tryz.ntmps106
  go_wp2
  go_ret2
  all_goals exact ⟨rfl, rfl⟩

set_option maxHeartbeats 1000000 in
theorem mulT (w : World) : Calls Tryz.prog 91 #[.int .u64 1, .int .u64 16] w fun e w' => e = .returned (.tuple #[.int .u64 0, .int .u64 16]) ∧ w' = w := by
  have T := mul64T w
  go_enter Tryz.func91, Tryz.ntmps91
  go_wp2
  go_ret2
  all_goals exact ⟨rfl, rfl⟩
end Go.Proofs.YteibfnclillnnabGreat

/- The walk of the library's Repeat, of sixteen times none. -/
namespace Go.Proofs.YteibfnclillnnabGreat
open Go.ChangeShapes Go.WideShapes Go.ChangeAt Go.RowKit

/-- sixteen cells whose first n are none -/
def fl (n : Nat) : List Value := row int1 (List.replicate n (-1) ++ List.replicate (16 - n) 0)
/-- so many of none -/
def mn (n : Nat) : List Value := row int1 (List.replicate n (-1))

theorem fl0 : splice (fl 0) 0 (mn 1) = fl 1 := by rfl
theorem fl_twice {n : Nat} (h : n = 1 ∨ n = 2 ∨ n = 4 ∨ n = 8) : splice (fl n) n (mn n) = fl (2 * n) := by
  rcases h with rfl | rfl | rfl | rfl <;> rfl
theorem fl16 : fl 16 = row int1 (List.replicate 16 (-1)) := by rfl
theorem mn_len (n : Nat) : (mn n).length = n := by simp [mn, int1_row_len]
theorem fl_len {n : Nat} (h : n ≤ 16) : (fl n).length = 16 := by simp [fl, int1_row_len]; omega
theorem mn_one (n : Nat) : ∀ v ∈ mn n, v.oneCell' = true := by
  intro v hv
  obtain ⟨j, hj⟩ := List.getElem?_of_mem hv
  rw [mn, int1_at] at hj
  cases h : (List.replicate n (-1 : Int))[j]? with
  | none => simp [h] at hj
  | some y =>
    simp [h] at hj
    subst hj
    rfl
theorem mn_at {n j : Nat} {v : Value} (h : (mn n)[j]? = some v) : j < n ∧ v = .int .i64 (-1) := by
  have hj : j < n := by
    have := (List.getElem?_eq_some_iff.1 h).1
    rwa [mn_len] at this
  rw [mn, int1_at, List.getElem?_replicate, if_pos hj] at h
  simp at h
  exact ⟨hj, h.symm⟩

theorem made_fl {w1 : World} {N0 g1 : Nat} (k1 : w1.ownsRow N0 3 1 (.slice (some ⟨g1, 0, none⟩) 16 16) 16 (madeCells (Value.int .i64 0).cells (16 * 1)).toList) : w1.heap[g1]? = some (.cells (fl 0).toArray 3 (0, 0)) := by
  have made16 : (madeCells (Value.int .i64 0).cells (16 * 1)).toList = fl 0 := by kernel_rfl
  rw [made16] at k1
  rcases k1.2 with ⟨h, _⟩ | ⟨g, cap, cur, hv, _, hg, _, _, hs, ht⟩
  · cases h
  · simp only [Value.slice.injEq, Option.some.injEq, Addr.mk.injEq] at hv
    obtain ⟨⟨rfl, _⟩, _, rfl⟩ := hv
    rw [List.take_of_length_le (by simp only [Array.length_toList]; omega)] at ht
    rw [hg, ← ht]

theorem src1 {w : World} {g : Nat} (h : w.cell? ⟨g, 0, none⟩ = some (.int .i64 (-1))) : ∀ j v, (mn 1)[j]? = some v → w.cell? ((⟨g, 0, none⟩ : Addr).add j) = some v := by
  intro j v hv
  obtain ⟨hj, rfl⟩ := mn_at hv
  obtain rfl : j = 0 := by omega
  exact h

theorem fl_at {n j : Nat} (hj : j < n) : (fl n)[j]? = some (.int .i64 (-1)) := by
  rw [fl, int1_at, List.getElem?_append_left (by simpa using hj), List.getElem?_replicate, if_pos hj]
  rfl
theorem srcn {w : World} {g n : Nat} (hn : n ≤ 16) (h : w.heap[g]? = some (.cells (fl n).toArray 3 (0, 0))) : ∀ j v, (mn n)[j]? = some v → w.cell? ((⟨g, 0, none⟩ : Addr).add j) = some v := by
  intro j v hv
  obtain ⟨hj, rfl⟩ := mn_at hv
  have := World.ownsRow.cellAt (w := w) (base := 0) (e := 3) (size := 1) (g := g) (n := 16) (cap := 16) (xs := fl n) ⟨by rw [fl_len hn], Or.inr ⟨g, 16, _, rfl, Nat.zero_le _, h, Nat.le_refl _, by unfold maxLen; omega, by simpa using fl_len hn, by simp [List.take_of_length_le, fl_len hn]⟩⟩ j (by omega)
  rw [fl_at hj] at this
  rw [Addr.add]
  simp only [Nat.zero_add]
  split
  · next e => subst e; exact this
  · exact this
theorem fl_fit {n : Nat} (h : n ≤ 8) : n + (mn n).length ≤ (fl n).length := by rw [mn_len, fl_len (by omega)]; omega

set_option maxRecDepth 100000 in
set_option maxHeartbeats 4000000 in
theorem repeatT (g : Nat) (w : World) (hgw : g < w.heap.size) (hc : w.cell? ⟨g, 0, none⟩ = some (.int .i64 (-1))) :
    Calls Tryz.prog 83 #[.slice (some ⟨g, 0, none⟩) 1 1, .int .i64 16] w fun e w' => ∃ dg, e = .returned (.slice (some ⟨dg, 0, none⟩) 16 16) ∧ w'.ownsRow w.heap.size 3 1 (.slice (some ⟨dg, 0, none⟩) 16 16) 16 (row int1 (List.replicate 16 (-1))) ∧ Below w.heap.size w w' := by
  obtain ⟨i, hi, h0, h1, h2⟩ := info_parts info3i
  have T := mulT w
  have HC := hid hc
  clear hc
  obtain ⟨N0, hN0⟩ : ∃ n, n = w.heap.size := ⟨_, rfl⟩
  have HN0 := hid hN0
  rw [← hN0]
  clear hN0
  go_enter Tryz.func83, Tryz.ntmps83
  go_wp2_with fail
  refine T.mono ?_
  rintro _ w9 ⟨rfl, h9⟩
  have h9 := h9.symm
  subst h9
  clear T
  obtain ⟨g1, hg1⟩ : ∃ g1, g1 = w.heap.size := ⟨_, rfl⟩
  have hN1 := hid (show N0 ≤ g1 by rw [HN0.out, hg1]; exact Nat.le_refl _)
  have HG := hid hg1
  clear hg1
  go_upto_region 7 with
    (at_make
     refine wpList_make_full _ rfl _ _ 23 rfl N0 3 i (.int .i64 0) 1 (by kernel_rfl) hi h0 h1 .i64 .i64 16 16 16 rfl rfl rfl rfl (by rw [h2]; omega) (by unfold maxLen; omega) (by rw [HN0.out]; exact Nat.le_refl _) ?_
     rw [← HG.out]
     intro w1 k1 k2
     have HH := hid (made_fl k1)
     have HB := hid (show Below N0 w w1 by rw [HN0.out]; exact (Below.refl _ w).grown k2 (Nat.le_refl _) (fun _ h => by cases h))
     clear k1 k2)
  have HS1 := hid (src1 ((HB.out.cell (p := ⟨g, 0, none⟩) (by rw [HN0.out]; exact hgw)).trans HC.out))
  have HS2 := hid (mn_len 1)
  go_wp2_with
    (show wpList _ _ _ ({ dst := some 33, op := _, type := _, pos := _, after := _, guard := _ } :: _) _ _
     refine wpList_copy_splice rfl (.tmp 31) (.tmp 32) 23 23 rfl 3 (by kernel_rfl) (by kernel_rfl) _ _ 16 16 1 1 rfl rfl g1 0 (fl 0) 3 HH.out (mn 1) HS2.out (fun _ => ⟨rfl, ⟨g, 0, none⟩, rfl, HS1.out⟩) (by decide) (mn_one 1) N0 w HB.out hN1.out ?_
     rw [fl0]
     intro w2 k3 k4
     have HH2 := hid k3.out
     have HB2 := hid k4
     clear k3 k4)
  clear HH HB HS1
  go_loopw [8] (fun nv wr => ∃ (n : Nat) (k : Int), nv = .int .i64 k ∧ (n = 1 ∧ k = 1 ∨ n = 2 ∧ k = 2 ∨ n = 4 ∧ k = 4 ∨ n = 8 ∧ k = 8 ∨ n = 16 ∧ k = 16) ∧ Hid (wr.heap[g1]? = some (.cells (fl n).toArray 3 (0, 0))) ∧ Hid (Below N0 w wr)) (fun nv _ => 16 - (intOf nv).toNat)
  case atStart => exact ⟨1, 1, by rw [HS2.out]; rfl, Or.inl ⟨rfl, rfl⟩, HH2, HB2⟩
  case round =>
    clear HH2 HB2
    obtain ⟨n, k, rfl, hn, hH, hB⟩ := hrel
    clear HS2
    rcases hn with ⟨rfl, rfl⟩ | ⟨rfl, rfl⟩ | ⟨rfl, rfl⟩ | ⟨rfl, rfl⟩ | ⟨rfl, rfl⟩
    · obtain ⟨HX, HXB⟩ : Hid (wr.heap[g1]? = some (.cells (fl 1).toArray 3 (0, 0))) ∧ Hid (Below N0 w wr) := ⟨hH, hB⟩
      clear hH hB
      have HSR := hid (srcn (n := 1) (w := wr.drew) (by omega) HX.out)
      have HXD := hid (show wr.drew.heap[g1]? = some (.cells (fl 1).toArray 3 (0, 0)) from HX.out)
      have HXC := hid HXB.out.drew
      have HSL := hid (mn_len 1)
      have HSF := hid (fl_fit (n := 1) (by omega))
      go_wp2_with fail
      go_region_law
        (refine step_copy_splice rfl (.tmp 41) (.tmp 44) 23 23 rfl 3 (by kernel_rfl) (by kernel_rfl) (some ⟨g1, 1, none⟩) (some ⟨g1, 0, none⟩) 15 15 1 16 (by go_simp) (by go_simp) g1 1 (fl 1) 3 HXD.out (mn 1) HSL.out (fun _ => ⟨rfl, ⟨g1, 0, none⟩, rfl, HSR.out⟩) HSF.out (mn_one 1) N0 w HXC.out hN1.out ?_
         rw [fl_twice (by omega)]
         intro w4 k3 k4
         have HH2 := hid k3.out
         have HB2 := hid k4
         clear k3 k4)
      refine ⟨?_, ?_⟩
      · repeat apply Exists.intro
        refine ⟨?_, rfl⟩
        exact ⟨2, 2, rfl, Or.inr (Or.inl ⟨rfl, rfl⟩), HH2, HB2⟩
      · show 16 - (2 : Int).toNat < 16 - (1 : Int).toNat
        decide
    · obtain ⟨HX, HXB⟩ : Hid (wr.heap[g1]? = some (.cells (fl 2).toArray 3 (0, 0))) ∧ Hid (Below N0 w wr) := ⟨hH, hB⟩
      clear hH hB
      have HSR := hid (srcn (n := 2) (w := wr.drew) (by omega) HX.out)
      have HXD := hid (show wr.drew.heap[g1]? = some (.cells (fl 2).toArray 3 (0, 0)) from HX.out)
      have HXC := hid HXB.out.drew
      have HSL := hid (mn_len 2)
      have HSF := hid (fl_fit (n := 2) (by omega))
      go_wp2_with fail
      go_region_law
        (refine step_copy_splice rfl (.tmp 41) (.tmp 44) 23 23 rfl 3 (by kernel_rfl) (by kernel_rfl) (some ⟨g1, 2, none⟩) (some ⟨g1, 0, none⟩) 14 14 2 16 (by go_simp) (by go_simp) g1 2 (fl 2) 3 HXD.out (mn 2) HSL.out (fun _ => ⟨rfl, ⟨g1, 0, none⟩, rfl, HSR.out⟩) HSF.out (mn_one 2) N0 w HXC.out hN1.out ?_
         rw [fl_twice (by omega)]
         intro w4 k3 k4
         have HH2 := hid k3.out
         have HB2 := hid k4
         clear k3 k4)
      refine ⟨?_, ?_⟩
      · repeat apply Exists.intro
        refine ⟨?_, rfl⟩
        exact ⟨4, 4, rfl, Or.inr (Or.inr (Or.inl ⟨rfl, rfl⟩)), HH2, HB2⟩
      · show 16 - (4 : Int).toNat < 16 - (2 : Int).toNat
        decide
    · obtain ⟨HX, HXB⟩ : Hid (wr.heap[g1]? = some (.cells (fl 4).toArray 3 (0, 0))) ∧ Hid (Below N0 w wr) := ⟨hH, hB⟩
      clear hH hB
      have HSR := hid (srcn (n := 4) (w := wr.drew) (by omega) HX.out)
      have HXD := hid (show wr.drew.heap[g1]? = some (.cells (fl 4).toArray 3 (0, 0)) from HX.out)
      have HXC := hid HXB.out.drew
      have HSL := hid (mn_len 4)
      have HSF := hid (fl_fit (n := 4) (by omega))
      go_wp2_with fail
      go_region_law
        (refine step_copy_splice rfl (.tmp 41) (.tmp 44) 23 23 rfl 3 (by kernel_rfl) (by kernel_rfl) (some ⟨g1, 4, none⟩) (some ⟨g1, 0, none⟩) 12 12 4 16 (by go_simp) (by go_simp) g1 4 (fl 4) 3 HXD.out (mn 4) HSL.out (fun _ => ⟨rfl, ⟨g1, 0, none⟩, rfl, HSR.out⟩) HSF.out (mn_one 4) N0 w HXC.out hN1.out ?_
         rw [fl_twice (by omega)]
         intro w4 k3 k4
         have HH2 := hid k3.out
         have HB2 := hid k4
         clear k3 k4)
      refine ⟨?_, ?_⟩
      · repeat apply Exists.intro
        refine ⟨?_, rfl⟩
        exact ⟨8, 8, rfl, Or.inr (Or.inr (Or.inr (Or.inl ⟨rfl, rfl⟩))), HH2, HB2⟩
      · show 16 - (8 : Int).toNat < 16 - (4 : Int).toNat
        decide
    · obtain ⟨HX, HXB⟩ : Hid (wr.heap[g1]? = some (.cells (fl 8).toArray 3 (0, 0))) ∧ Hid (Below N0 w wr) := ⟨hH, hB⟩
      clear hH hB
      have HSR := hid (srcn (n := 8) (w := wr.drew) (by omega) HX.out)
      have HXD := hid (show wr.drew.heap[g1]? = some (.cells (fl 8).toArray 3 (0, 0)) from HX.out)
      have HXC := hid HXB.out.drew
      have HSL := hid (mn_len 8)
      have HSF := hid (fl_fit (n := 8) (by omega))
      go_wp2_with fail
      go_region_law
        (refine step_copy_splice rfl (.tmp 41) (.tmp 44) 23 23 rfl 3 (by kernel_rfl) (by kernel_rfl) (some ⟨g1, 8, none⟩) (some ⟨g1, 0, none⟩) 8 8 8 16 (by go_simp) (by go_simp) g1 8 (fl 8) 3 HXD.out (mn 8) HSL.out (fun _ => ⟨rfl, ⟨g1, 0, none⟩, rfl, HSR.out⟩) HSF.out (mn_one 8) N0 w HXC.out hN1.out ?_
         rw [fl_twice (by omega)]
         intro w4 k3 k4
         have HH2 := hid k3.out
         have HB2 := hid k4
         clear k3 k4)
      refine ⟨?_, ?_⟩
      · repeat apply Exists.intro
        refine ⟨?_, rfl⟩
        exact ⟨16, 16, rfl, Or.inr (Or.inr (Or.inr (Or.inr ⟨rfl, rfl⟩))), HH2, HB2⟩
      · show 16 - (16 : Int).toNat < 16 - (8 : Int).toNat
        decide
    · obtain ⟨HX, HXB⟩ : Hid (wr.heap[g1]? = some (.cells (fl 16).toArray 3 (0, 0))) ∧ Hid (Below N0 w wr) := ⟨hH, hB⟩
      clear hH hB
      go_wp2
      refine bodyPost_ret (results_tmp rfl _ _ _) rfl ?_
      refine ⟨g1, rfl, ?_, HXB.out⟩
      rw [← fl16]
      exact ⟨by rw [fl_len (Nat.le_refl _)], Or.inr ⟨g1, 16, _, rfl, hN1.out, HX.out, Nat.le_refl _, by unfold maxLen; omega, by simpa using fl_len (Nat.le_refl 16), by simp [List.take_of_length_le, fl_len]⟩⟩
end Go.Proofs.YteibfnclillnnabGreat

/- The walk of sum: trees added up to a heap. -/
namespace Go.Proofs.YteibfnclillnnabGreat
open Go.ChangeShapes Go.WideShapes Go.ChangeAt Go.RowKit
open Tr

/-- what a heap's own call leaves behind: its trees, beside the state ahead of it, over the cells that it may turn -/
structure Left (s0 s : St) (ts : List Bn) (cs its : List Nat) : Prop where
  bh : Bh (befF (hasS s0)) s ts
  sm : Sm s0 s
  cells : (ts.flatMap Bn.cells).Perm cs
  items : (ts.flatMap Bn.items).Perm its
  key : ∀ c, hasS s c 7 = hasS s0 c 7 ∧ hasS s c 8 = hasS s0 c 8
  oth : ∀ c, c ∉ cs → ∀ j, hasS s c j = hasS s0 c j

theorem col_none (g : Bn → List Nat) : ∀ n : Nat, col g (List.replicate n none) = []
  | 0 => rfl
  | n + 1 => by have := col_none g n; simpa [List.replicate_succ, col] using this
theorem digs_none : (List.replicate 16 (none : Option Bn)).map dig = List.replicate 16 (-1) := rfl

section
variable {F : Nat → Prop} {w w' : World} {pa pm : Nat} {s : St}
set_option maxHeartbeats 4000000 in
theorem sumT (l : List Bn) (v : Value) (hv : ∀ b ∈ l, Vb (LS s) (hasS s) b ∧ Gb (befF (hasS s)) b) (hnd : (l.flatMap Bn.cells).Nodup) (hsm : (l.flatMap Bn.items).length ≤ 60000) (ok : Ok s) (hl : l.length ≤ 100)
    (hL : Lst w v (nds l)) (hLf : ∀ a n c, v = .slice (some a) n c → ¬ F a.block) (h : IsA w F pa pm s) (hs : s.steps ≤ 99980000) :
    Calls Tryz.prog 71 #[.pointer (some ⟨pa, 0, none⟩), v] w fun e w' =>
      ∃ (ts : List Bn) (s' : St), e = .returned (.int .i64 (headr ts)) ∧ Left s s' ts (l.flatMap Bn.cells) (l.flatMap Bn.items) ∧ IsA w' F pa pm s' ∧ Kept F w w' ∧ s.steps ≤ s'.steps ∧ s'.steps ≤ s.steps + 13 * l.length + 16 := by
  obtain ⟨va, vc, rfl, z1, z2, z3, z4⟩ := hL
  have hnl : (nds l).length = l.length := by simp [nds]
  have HD : Hid (Dg (befF (hasS s)) s s (List.replicate 16 none) l) := hid ⟨Sm.refl ok, by simp, fun k b hk => (by
      rw [List.getElem?_replicate] at hk
      split at hk <;> simp at hk), hv, by rw [col_none]; simpa using hnd, fun _ => ⟨rfl, rfl⟩, fun _ _ _ => rfl, by rw [col_none]; simpa using hsm⟩
  have HLF := hid hLf
  have Z4 := hid z4
  have HA := hid h
  have HS := hid hs
  have HFL := hid h.lt
  have RP := hid (repeatT w.heap.size (w.alloc (.cells #[.int .i64 (-1)] 3)) (by simp) (World.ownsRow.cellAt (own_lit0 w 0 (Nat.zero_le _) [-1] (by simp) _ rfl) 0 (by simp)))
  rw [hnl] at z1 ⊢
  clear hv hnd hsm ok hLf h hs z4 z2 z3
  go_enter Tryz.func71, Tryz.ntmps71
  go_wp2_with fail
  refine RP.out.mono ?_
  rintro e w2 ⟨dg, rfl, p1, p2⟩
  have hd := (World.ownsRow.lt p1 dg rfl)
  have hd1 : w.heap.size ≤ dg := by have := hd.1; simp at this; omega
  have HDG := hid (show ¬ F dg from fun e => by have := HFL.out dg e; omega)
  have HDW := hid hd1
  have HB2 := hid (show Below w.heap.size w w2 from ((Below.refl _ w).alloc (Nat.le_refl _) _).trans (p2.mono (by simp)))
  have HL2 := hid (show Dl w2 dg 16 (List.replicate 16 none) from World.ownsRow.mono (by rw [digs_none]; exact p1) (Nat.zero_le _))
  clear hd hd1 p1 p2 RP
  go_wp2_with fail
  go_loopw [7, 14] (fun tv iv wr => ∃ (j : Nat) (D : List (Option Bn)) (r : St), iv = .int .i64 (j : Int) ∧ j ≤ l.length ∧ Hid (Dg (befF (hasS s)) s r D (l.drop j)) ∧ Hid (Dl wr dg 16 D) ∧ Hid (IsA wr F pa pm r) ∧ Hid (Kept F w wr) ∧ Hid (s.steps ≤ r.steps ∧ r.steps + 12 * ntr D ≤ s.steps + 13 * j) ∧ Hid ((col Bn.items D ++ (l.drop j).flatMap Bn.items).Perm (l.flatMap Bn.items) ∧ (col Bn.cells D ++ (l.drop j).flatMap Bn.cells).Perm (l.flatMap Bn.cells))) (fun _ iv _ => l.length - (intOf iv).toNat)
  case atStart => exact ⟨0, List.replicate 16 none, s, rfl, Nat.zero_le _, hid (by simpa using HD.out), HL2, hid (HA.out.kept (Kept.of_below (F := fun _ => False) HB2.out) (fun _ _ e => e)), hid (Kept.of_below HB2.out), hid ⟨Nat.le_refl _, by rw [ntr, col_none]; simp⟩, hid ⟨by rw [col_none]; exact List.Perm.refl _, by rw [col_none]; exact List.Perm.refl _⟩⟩
  case round =>
    clear HD HA HL2 HB2
    obtain ⟨j, D, r, rfl, hj, hD, hDL, hA, hK, hN, hP⟩ := hrel
    have hlen := hid hD.out.len
    by_cases hlt : j < l.length
    · have hx : l[j]? = some l[j] := List.getElem?_eq_getElem hlt
      have hdr : l.drop j = l[j] :: l.drop (j + 1) := List.drop_eq_getElem_cons hlt
      generalize l[j] = x at hx hdr
      have hxn : (nds l)[j]? = some (x.n : Int) := by simp [nds, hx]
      rcases Z4.out with e | ⟨b, off, rfl, hb, hc⟩
      · have : (nds l).length = 0 := by rw [e]; rfl
        omega
      have c1 : wr.cell? ⟨b, off + j, none⟩ = some (.int .i64 (x.n : Int)) := (hK.out.cell (p := ⟨b, off + j, none⟩) hb (show ¬ F b from HLF.out _ _ _ rfl)).trans (hc _ _ hxn)
      have hlt' : (j : Int) < (l.length : Int) := by omega
      rw [hdr] at hD hP
      have CR := hid (carryT dg 16 D x (l.drop (j + 1)) hD.out hDL.out HDG.out hA.out (by have := hN.out.2; have := HS.out; omega))
      clear hx hxn hdr hc hlen
      go_wp2_with fail
      refine CR.out.mono ?_
      rintro e w3 ⟨rfl, D', r', q1, q2, q3, q4, q5, q6, q7, q8⟩
      have Q1 := hid q1
      have Q2 := hid q2
      have Q3 := hid q3
      have Q4 := hid (hK.out.trans (q4.mono fun k e => (show Grow F w wr k from e.elim Or.inl fun e => Or.inr (by rw [e]; exact ⟨HDW.out, hDL.out.lt⟩))))
      have Q5 := hid (show s.steps ≤ r'.steps ∧ r'.steps + 12 * ntr D' ≤ s.steps + 13 * (j + 1) from ⟨Nat.le_trans hN.out.1 q5, by have := hN.out.2; omega⟩)
      have Q6 := hid (show (col Bn.items D' ++ (l.drop (j + 1)).flatMap Bn.items).Perm (l.flatMap Bn.items) from (q7.append_right _).trans (by rw [List.append_assoc]; simpa [List.flatMap_cons] using hP.out.1))
      have Q7 := hid (show (col Bn.cells D' ++ (l.drop (j + 1)).flatMap Bn.cells).Perm (l.flatMap Bn.cells) from (q8.append_right _).trans (by rw [List.append_assoc]; simpa [List.flatMap_cons] using hP.out.2))
      clear q1 q2 q3 q4 q5 q6 q7 q8 CR hD hDL hA hK hN hP
      go_wp2
      go_roundw
      case rel => exact ⟨j + 1, D', r', by go_num, by omega, Q1, Q2, Q3, Q4, Q5, hid ⟨Q6.out, Q7.out⟩⟩
      case measure => simp [intOf]; omega
    · obtain rfl : j = l.length := by omega
      have hD0 : Dg (befF (hasS s)) s r D [] := by have := hD.out; rwa [List.drop_length] at this
      have SV := hid (sum_view hD0)
      have RW := hid (rowT dg 16 (D.map dig) HDG.out hDL.out.lt (fun i hi => by
        have hi2 : i < D.length := by rw [hlen.out]; exact hi
        have ho : D[i]? = some D[i] := List.getElem?_eq_getElem hi2
        rw [List.getElem?_map, ho]
        exact hDL.out.at hlen.out ho) hA.out (by have := hN.out.2; have := HS.out; omega))
      rw [fold_all D hlen.out] at RW
      obtain ⟨p, hp⟩ : ∃ p, p = D.foldr rfst (r, -1) := ⟨_, rfl⟩
      rw [← hp] at SV RW
      have PI := hid (show ((trs D).flatMap Bn.items).Perm (l.flatMap Bn.items) by rw [trs_col]; have := hP.out.1; rw [List.drop_length] at this; simpa using this)
      have PC := hid (show ((trs D).flatMap Bn.cells).Perm (l.flatMap Bn.cells) by rw [trs_col]; have := hP.out.2; rw [List.drop_length] at this; simpa using this)
      clear hp hD hD0 hDL hA hP hlt hlen
      go_wp2_with fail
      refine RW.out.mono ?_
      rintro e w4 ⟨rfl, f1, f2⟩
      have F1 := hid f1
      have F2 := hid (hK.out.trans' f2)
      clear f1 f2 RW hK
      go_wp2
      go_ret
      exact ⟨trs D, p.1, by rw [SV.out.2.1]; rfl, ⟨SV.out.1, SV.out.2.2.1, PC.out, PI.out, SV.out.2.2.2.2.2.1, fun c hc => SV.out.2.2.2.2.2.2 c fun e => hc (PC.out.mem_iff.1 e)⟩, F1.out, F2.out, Nat.le_trans hN.out.1 SV.out.2.2.2.2.1, by have := SV.out.2.2.2.1; have := hN.out.2; omega⟩
end
end Go.Proofs.YteibfnclillnnabGreat
