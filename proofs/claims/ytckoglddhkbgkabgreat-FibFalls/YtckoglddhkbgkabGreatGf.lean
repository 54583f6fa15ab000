/- Several texts in one. -/
import Derived.Test.YtckoglddhkbgkabGreatGd
import Derived.Laws.CopyOwn
import Derived.Test.YtckoglddhkbgkabGreatGe
/- The walk of the library's Repeat, of twenty-two times none: how many numbers that are. -/
namespace Go.Proofs.YtckoglddhkbgkabGreat
open Go.ChangeShapes Go.WideShapes Go.ChangeAt Go.RowKit

set_option maxHeartbeats 1000000 in
theorem mul64T (w : World) : Calls Tryz.prog 107 #[.int .u64 1, .int .u64 22] w fun e w' => e = .returned (.tuple #[.int .u64 0, .int .u64 22]) ∧ w' = w := by
  go_enter Tryz.func107, Tryz.ntmps107
  go_wp2
  go_ret2
  all_goals exact ⟨rfl, rfl⟩

set_option maxHeartbeats 1000000 in
theorem mulT (w : World) : Calls Tryz.prog 92 #[.int .u64 1, .int .u64 22] w fun e w' => e = .returned (.tuple #[.int .u64 0, .int .u64 22]) ∧ w' = w := by
  have T := mul64T w
  go_enter Tryz.func92, Tryz.ntmps92
  go_wp2
  go_ret2
  all_goals exact ⟨rfl, rfl⟩
end Go.Proofs.YtckoglddhkbgkabGreat

/- The walk of the library's Repeat, of twenty-two times none. -/
namespace Go.Proofs.YtckoglddhkbgkabGreat
open Go.ChangeShapes Go.WideShapes Go.ChangeAt Go.RowKit

/-- twenty-two cells whose first n are none -/
def fl (n : Nat) : List Value := row int1 (List.replicate n (-1) ++ List.replicate (22 - n) 0)
/-- so many of none -/
def mn (n : Nat) : List Value := row int1 (List.replicate n (-1))

theorem fl0 : splice (fl 0) 0 (mn 1) = fl 1 := by rfl
theorem fl_twice {n k : Nat} (h : (n = 1 ∧ k = 1) ∨ (n = 2 ∧ k = 2) ∨ (n = 4 ∧ k = 4) ∨ (n = 8 ∧ k = 8) ∨ (n = 16 ∧ k = 6)) : splice (fl n) n (mn k) = fl (n + k) := by
  rcases h with ⟨rfl, rfl⟩ | ⟨rfl, rfl⟩ | ⟨rfl, rfl⟩ | ⟨rfl, rfl⟩ | ⟨rfl, rfl⟩ <;> rfl
theorem fl22 : fl 22 = row int1 (List.replicate 22 (-1)) := by rfl
theorem mn_len (n : Nat) : (mn n).length = n := by simp [mn, int1_row_len]
theorem fl_len {n : Nat} (h : n ≤ 22) : (fl n).length = 22 := by simp [fl, int1_row_len]; omega
theorem mn_one (n : Nat) : ∀ v ∈ mn n, v.oneCell' = true := by
  intro v hv
  obtain ⟨j, hj⟩ := List.getElem?_of_mem hv
  rw [mn, int1_at] at hj
  cases h : (List.replicate n (-1 : Int))[j]? with
  | none => simp [h] at hj
  | some y =>
    simp [h] at hj
    subst hj
    rfl
theorem mn_at {n j : Nat} {v : Value} (h : (mn n)[j]? = some v) : j < n ∧ v = .int .i64 (-1) := by
  have hj : j < n := by
    have := (List.getElem?_eq_some_iff.1 h).1
    rwa [mn_len] at this
  rw [mn, int1_at, List.getElem?_replicate, if_pos hj] at h
  simp at h
  exact ⟨hj, h.symm⟩

theorem made_fl {w1 : World} {N0 g1 : Nat} (k1 : w1.ownsRow N0 3 1 (.slice (some ⟨g1, 0, none⟩) 22 22) 22 (madeCells (Value.int .i64 0).cells (22 * 1)).toList) : w1.heap[g1]? = some (.cells (fl 0).toArray 3 (0, 0)) := by
  have made22 : (madeCells (Value.int .i64 0).cells (22 * 1)).toList = fl 0 := by kernel_rfl
  rw [made22] at k1
  rcases k1.2 with ⟨h, _⟩ | ⟨g, cap, cur, hv, _, hg, _, _, hs, ht⟩
  · cases h
  · simp only [Value.slice.injEq, Option.some.injEq, Addr.mk.injEq] at hv
    obtain ⟨⟨rfl, _⟩, _, rfl⟩ := hv
    rw [List.take_of_length_le (by simp only [Array.length_toList]; omega)] at ht
    rw [hg, ← ht]

theorem src1 {w : World} {g : Nat} (h : w.cell? ⟨g, 0, none⟩ = some (.int .i64 (-1))) : ∀ j v, (mn 1)[j]? = some v → w.cell? ((⟨g, 0, none⟩ : Addr).add j) = some v := by
  intro j v hv
  obtain ⟨hj, rfl⟩ := mn_at hv
  obtain rfl : j = 0 := by omega
  exact h

theorem fl_at {n j : Nat} (hj : j < n) : (fl n)[j]? = some (.int .i64 (-1)) := by
  rw [fl, int1_at, List.getElem?_append_left (by simpa using hj), List.getElem?_replicate, if_pos hj]
  rfl
theorem srcn {w : World} {g n k : Nat} (hk : k ≤ n) (hn : n ≤ 22) (h : w.heap[g]? = some (.cells (fl n).toArray 3 (0, 0))) : ∀ j v, (mn k)[j]? = some v → w.cell? ((⟨g, 0, none⟩ : Addr).add j) = some v := by
  intro j v hv
  obtain ⟨hj, rfl⟩ := mn_at hv
  have := World.ownsRow.cellAt (w := w) (base := 0) (e := 3) (size := 1) (g := g) (n := 22) (cap := 22) (xs := fl n) ⟨by rw [fl_len hn], Or.inr ⟨g, 22, _, rfl, Nat.zero_le _, h, Nat.le_refl _, by unfold maxLen; omega, by simpa using fl_len hn, by simp [List.take_of_length_le, fl_len hn]⟩⟩ j (by omega)
  rw [fl_at (Nat.lt_of_lt_of_le hj hk)] at this
  rw [Addr.add]
  simp only [Nat.zero_add]
  split
  · next e => subst e; exact this
  · exact this
theorem fl_fit {n k : Nat} (h : n + k ≤ 22) : n + (mn k).length ≤ (fl n).length := by rw [mn_len, fl_len (by omega)]; omega

set_option maxRecDepth 100000 in
set_option maxHeartbeats 4000000 in
theorem repeatT (g : Nat) (w : World) (hgw : g < w.heap.size) (hc : w.cell? ⟨g, 0, none⟩ = some (.int .i64 (-1))) :
    Calls Tryz.prog 84 #[.slice (some ⟨g, 0, none⟩) 1 1, .int .i64 22] w fun e w' => ∃ dg, e = .returned (.slice (some ⟨dg, 0, none⟩) 22 22) ∧ w'.ownsRow w.heap.size 3 1 (.slice (some ⟨dg, 0, none⟩) 22 22) 22 (row int1 (List.replicate 22 (-1))) ∧ Below w.heap.size w w' := by
  obtain ⟨i, hi, h0, h1, h2⟩ := info_parts info3i
  have T := mulT w
  have HC := hid hc
  clear hc
  obtain ⟨N0, hN0⟩ : ∃ n, n = w.heap.size := ⟨_, rfl⟩
  have HN0 := hid hN0
  rw [← hN0]
  clear hN0
  go_enter Tryz.func84, Tryz.ntmps84
  go_wp2_with fail
  refine T.mono ?_
  rintro _ w9 ⟨rfl, h9⟩
  have h9 := h9.symm
  subst h9
  clear T
  obtain ⟨g1, hg1⟩ : ∃ g1, g1 = w.heap.size := ⟨_, rfl⟩
  have hN1 := hid (show N0 ≤ g1 by rw [HN0.out, hg1]; exact Nat.le_refl _)
  have HG := hid hg1
  clear hg1
  go_upto_region 7 with
    (at_make
     refine wpList_make_full _ rfl _ _ 23 rfl N0 3 i (.int .i64 0) 1 (by kernel_rfl) hi h0 h1 .i64 .i64 22 22 22 rfl rfl rfl rfl (by rw [h2]; omega) (by unfold maxLen; omega) (by rw [HN0.out]; exact Nat.le_refl _) ?_
     rw [← HG.out]
     intro w1 k1 k2
     have HH := hid (made_fl k1)
     have HB := hid (show Below N0 w w1 by rw [HN0.out]; exact (Below.refl _ w).grown k2 (Nat.le_refl _) (fun _ h => by cases h))
     clear k1 k2)
  have HS1 := hid (src1 ((HB.out.cell (p := ⟨g, 0, none⟩) (by rw [HN0.out]; exact hgw)).trans HC.out))
  have HS2 := hid (mn_len 1)
  go_wp2_with
    (show wpList _ _ _ ({ dst := some 33, op := _, type := _, pos := _, after := _, guard := _ } :: _) _ _
     refine wpList_copy_splice rfl (.tmp 31) (.tmp 32) 23 23 rfl 3 (by kernel_rfl) (by kernel_rfl) _ _ 22 22 1 1 rfl rfl g1 0 (fl 0) 3 HH.out (mn 1) HS2.out (fun _ => ⟨rfl, ⟨g, 0, none⟩, rfl, HS1.out⟩) (by decide) (mn_one 1) N0 w HB.out hN1.out ?_
     rw [fl0]
     intro w2 k3 k4
     have HH2 := hid k3.out
     have HB2 := hid k4
     clear k3 k4)
  clear HH HB HS1
  go_loopw [8] (fun nv wr => ∃ (n : Nat) (k : Int), nv = .int .i64 k ∧ (n = 1 ∧ k = 1 ∨ n = 2 ∧ k = 2 ∨ n = 4 ∧ k = 4 ∨ n = 8 ∧ k = 8 ∨ n = 16 ∧ k = 16 ∨ n = 22 ∧ k = 22) ∧ Hid (wr.heap[g1]? = some (.cells (fl n).toArray 3 (0, 0))) ∧ Hid (Below N0 w wr)) (fun nv _ => 22 - (intOf nv).toNat)
  case atStart => exact ⟨1, 1, by rw [HS2.out]; rfl, Or.inl ⟨rfl, rfl⟩, HH2, HB2⟩
  case round =>
    clear HH2 HB2
    obtain ⟨n, k, rfl, hn, hH, hB⟩ := hrel
    clear HS2
    rcases hn with ⟨rfl, rfl⟩ | ⟨rfl, rfl⟩ | ⟨rfl, rfl⟩ | ⟨rfl, rfl⟩ | ⟨rfl, rfl⟩ | ⟨rfl, rfl⟩
    · obtain ⟨HX, HXB⟩ : Hid (wr.heap[g1]? = some (.cells (fl 1).toArray 3 (0, 0))) ∧ Hid (Below N0 w wr) := ⟨hH, hB⟩
      clear hH hB
      have HSR := hid (srcn (n := 1) (k := 1) (w := wr.drew) (by omega) (by omega) HX.out)
      have HXD := hid (show wr.drew.heap[g1]? = some (.cells (fl 1).toArray 3 (0, 0)) from HX.out)
      have HXC := hid HXB.out.drew
      have HSL := hid (mn_len 1)
      have HSF := hid (fl_fit (n := 1) (k := 1) (by omega))
      go_wp2_with fail
      go_region_law
        (refine step_copy_splice rfl (.tmp 41) (.tmp 44) 23 23 rfl 3 (by kernel_rfl) (by kernel_rfl) (some ⟨g1, 1, none⟩) (some ⟨g1, 0, none⟩) 21 21 1 22 (by go_simp) (by go_simp) g1 1 (fl 1) 3 HXD.out (mn 1) HSL.out (fun _ => ⟨rfl, ⟨g1, 0, none⟩, rfl, HSR.out⟩) HSF.out (mn_one 1) N0 w HXC.out hN1.out ?_
         rw [fl_twice (by omega)]
         intro w4 k3 k4
         have HH2 := hid k3.out
         have HB2 := hid k4
         clear k3 k4)
      refine ⟨?_, ?_⟩
      · repeat apply Exists.intro
        refine ⟨?_, rfl⟩
        exact ⟨2, 2, rfl, Or.inr (Or.inl ⟨rfl, rfl⟩), HH2, HB2⟩
      · show 22 - (2 : Int).toNat < 22 - (1 : Int).toNat
        decide
    · obtain ⟨HX, HXB⟩ : Hid (wr.heap[g1]? = some (.cells (fl 2).toArray 3 (0, 0))) ∧ Hid (Below N0 w wr) := ⟨hH, hB⟩
      clear hH hB
      have HSR := hid (srcn (n := 2) (k := 2) (w := wr.drew) (by omega) (by omega) HX.out)
      have HXD := hid (show wr.drew.heap[g1]? = some (.cells (fl 2).toArray 3 (0, 0)) from HX.out)
      have HXC := hid HXB.out.drew
      have HSL := hid (mn_len 2)
      have HSF := hid (fl_fit (n := 2) (k := 2) (by omega))
      go_wp2_with fail
      go_region_law
        (refine step_copy_splice rfl (.tmp 41) (.tmp 44) 23 23 rfl 3 (by kernel_rfl) (by kernel_rfl) (some ⟨g1, 2, none⟩) (some ⟨g1, 0, none⟩) 20 20 2 22 (by go_simp) (by go_simp) g1 2 (fl 2) 3 HXD.out (mn 2) HSL.out (fun _ => ⟨rfl, ⟨g1, 0, none⟩, rfl, HSR.out⟩) HSF.out (mn_one 2) N0 w HXC.out hN1.out ?_
         rw [fl_twice (by omega)]
         intro w4 k3 k4
         have HH2 := hid k3.out
         have HB2 := hid k4
         clear k3 k4)
      refine ⟨?_, ?_⟩
      · repeat apply Exists.intro
        refine ⟨?_, rfl⟩
        exact ⟨4, 4, rfl, Or.inr (Or.inr (Or.inl ⟨rfl, rfl⟩)), HH2, HB2⟩
      · show 22 - (4 : Int).toNat < 22 - (2 : Int).toNat
        decide
    · obtain ⟨HX, HXB⟩ : Hid (wr.heap[g1]? = some (.cells (fl 4).toArray 3 (0, 0))) ∧ Hid (Below N0 w wr) := ⟨hH, hB⟩
      clear hH hB
      have HSR := hid (srcn (n := 4) (k := 4) (w := wr.drew) (by omega) (by omega) HX.out)
      have HXD := hid (show wr.drew.heap[g1]? = some (.cells (fl 4).toArray 3 (0, 0)) from HX.out)
      have HXC := hid HXB.out.drew
      have HSL := hid (mn_len 4)
      have HSF := hid (fl_fit (n := 4) (k := 4) (by omega))
      go_wp2_with fail
      go_region_law
        (refine step_copy_splice rfl (.tmp 41) (.tmp 44) 23 23 rfl 3 (by kernel_rfl) (by kernel_rfl) (some ⟨g1, 4, none⟩) (some ⟨g1, 0, none⟩) 18 18 4 22 (by go_simp) (by go_simp) g1 4 (fl 4) 3 HXD.out (mn 4) HSL.out (fun _ => ⟨rfl, ⟨g1, 0, none⟩, rfl, HSR.out⟩) HSF.out (mn_one 4) N0 w HXC.out hN1.out ?_
         rw [fl_twice (by omega)]
         intro w4 k3 k4
         have HH2 := hid k3.out
         have HB2 := hid k4
         clear k3 k4)
      refine ⟨?_, ?_⟩
      · repeat apply Exists.intro
        refine ⟨?_, rfl⟩
        exact ⟨8, 8, rfl, Or.inr (Or.inr (Or.inr (Or.inl ⟨rfl, rfl⟩))), HH2, HB2⟩
      · show 22 - (8 : Int).toNat < 22 - (4 : Int).toNat
        decide
    · obtain ⟨HX, HXB⟩ : Hid (wr.heap[g1]? = some (.cells (fl 8).toArray 3 (0, 0))) ∧ Hid (Below N0 w wr) := ⟨hH, hB⟩
      clear hH hB
      have HSR := hid (srcn (n := 8) (k := 8) (w := wr.drew) (by omega) (by omega) HX.out)
      have HXD := hid (show wr.drew.heap[g1]? = some (.cells (fl 8).toArray 3 (0, 0)) from HX.out)
      have HXC := hid HXB.out.drew
      have HSL := hid (mn_len 8)
      have HSF := hid (fl_fit (n := 8) (k := 8) (by omega))
      go_wp2_with fail
      go_region_law
        (refine step_copy_splice rfl (.tmp 41) (.tmp 44) 23 23 rfl 3 (by kernel_rfl) (by kernel_rfl) (some ⟨g1, 8, none⟩) (some ⟨g1, 0, none⟩) 14 14 8 22 (by go_simp) (by go_simp) g1 8 (fl 8) 3 HXD.out (mn 8) HSL.out (fun _ => ⟨rfl, ⟨g1, 0, none⟩, rfl, HSR.out⟩) HSF.out (mn_one 8) N0 w HXC.out hN1.out ?_
         rw [fl_twice (by omega)]
         intro w4 k3 k4
         have HH2 := hid k3.out
         have HB2 := hid k4
         clear k3 k4)
      refine ⟨?_, ?_⟩
      · repeat apply Exists.intro
        refine ⟨?_, rfl⟩
        exact ⟨16, 16, rfl, Or.inr (Or.inr (Or.inr (Or.inr (Or.inl ⟨rfl, rfl⟩)))), HH2, HB2⟩
      · show 22 - (16 : Int).toNat < 22 - (8 : Int).toNat
        decide
    · obtain ⟨HX, HXB⟩ : Hid (wr.heap[g1]? = some (.cells (fl 16).toArray 3 (0, 0))) ∧ Hid (Below N0 w wr) := ⟨hH, hB⟩
      clear hH hB
      have HSR := hid (srcn (n := 16) (k := 6) (w := wr.drew) (by omega) (by omega) HX.out)
      have HXD := hid (show wr.drew.heap[g1]? = some (.cells (fl 16).toArray 3 (0, 0)) from HX.out)
      have HXC := hid HXB.out.drew
      have HSL := hid (mn_len 6)
      have HSF := hid (fl_fit (n := 16) (k := 6) (by omega))
      go_wp2_with fail
      go_region_law
        (refine step_copy_splice rfl (.tmp 41) (.tmp 44) 23 23 rfl 3 (by kernel_rfl) (by kernel_rfl) (some ⟨g1, 16, none⟩) (some ⟨g1, 0, none⟩) 6 6 16 22 (by go_simp) (by go_simp) g1 16 (fl 16) 3 HXD.out (mn 6) HSL.out (fun _ => ⟨rfl, ⟨g1, 0, none⟩, rfl, HSR.out⟩) HSF.out (mn_one 6) N0 w HXC.out hN1.out ?_
         rw [fl_twice (by omega)]
         intro w4 k3 k4
         have HH2 := hid k3.out
         have HB2 := hid k4
         clear k3 k4)
      refine ⟨?_, ?_⟩
      · repeat apply Exists.intro
        refine ⟨?_, rfl⟩
        exact ⟨22, 22, rfl, Or.inr (Or.inr (Or.inr (Or.inr (Or.inr (⟨rfl, rfl⟩))))), HH2, HB2⟩
      · show 22 - (22 : Int).toNat < 22 - (16 : Int).toNat
        decide
    · obtain ⟨HX, HXB⟩ : Hid (wr.heap[g1]? = some (.cells (fl 22).toArray 3 (0, 0))) ∧ Hid (Below N0 w wr) := ⟨hH, hB⟩
      clear hH hB
      go_wp2
      refine bodyPost_ret (results_tmp rfl _ _ _) rfl ?_
      refine ⟨g1, rfl, ?_, HXB.out⟩
      rw [← fl22]
      exact ⟨by rw [fl_len (Nat.le_refl _)], Or.inr ⟨g1, 22, _, rfl, hN1.out, HX.out, Nat.le_refl _, by unfold maxLen; omega, by simpa using fl_len (Nat.le_refl 22), by simp [List.take_of_length_le, fl_len]⟩⟩
end Go.Proofs.YtckoglddhkbgkabGreat

/- The walk of carry: a tree comes to those of unlike Ranks. -/
namespace Go.Proofs.YtckoglddhkbgkabGreat
open Go.ChangeShapes Go.WideShapes Go.ChangeAt Go.RowKit
open Tr

/-- the digits in memory -/
def Dl (w : World) (dg : Nat) (D : List Int) : Prop := w.ownsRow 0 3 1 (.slice (some ⟨dg, 0, none⟩) 22 22) 22 (row int1 D)
theorem Dl.at {w : World} {dg : Nat} {D : List Int} (h : Dl w dg D) (hl : D.length = 22) {k : Nat} {o : Int} (ho : D[k]? = some o) : w.cell? ⟨dg, k, none⟩ = some (.int .i64 o) := by
  have hk := (List.getElem?_eq_some_iff.1 ho).1
  rw [World.ownsRow.cellAt h k (by omega), int1_at, ho]
  rfl
theorem Dl.set {w : World} {dg : Nat} {D : List Int} (h : Dl w dg D) (hl : D.length = 22) {k : Nat} (hk : k < 22) (o : Int) : Dl (w.setCell ⟨dg, k, none⟩ (.int .i64 o)) dg (D.set k o) := by
  have := (World.ownsRow.stored h k (.int .i64 o)).1
  unfold Dl
  rw [← int1_set _ k o (by omega)]
  exact this
theorem Dl.lt {w : World} {dg : Nat} {D : List Int} (h : Dl w dg D) : dg < w.heap.size := (World.ownsRow.lt h dg rfl).2
theorem Dl.kept {w w' : World} {F : Nat → Prop} {dg : Nat} {D : List Int} (h : Dl w dg D) (k : Kept F w w') (hd : ¬ F dg) : Dl w' dg D :=
  own_kept h k fun i hi => by cases hi; exact hd
/-- trees of unlike Ranks, and those that are yet to come -/
structure Dg (s : St) (H T : List Nat) (D : List Int) (l : List Nat) : Prop where
  gh : Gh s H T
  len : D.length = 22
  dv : ∀ (k : Nat) (d : Int), D[k]? = some d → d = -1 ∨ ∃ n : Nat, d = (n : Int) ∧ n ∈ T ∧ hasS s n 4 = (k : Int)
  tp : ∀ c : Nat, c ∈ T ↔ c ∈ l ∨ (c : Int) ∈ D
  ap : ∀ c ∈ l, (c : Int) ∉ D
  ln : l.Nodup
theorem mem_set_iff {D : List Int} {k : Nat} {o v : Int} (ho : D[k]? = some o) {x : Int} : x ∈ D.set k v ↔ x = v ∨ ∃ j, j ≠ k ∧ D[j]? = some x := by
  have hk := (List.getElem?_eq_some_iff.1 ho).1
  rw [List.mem_iff_getElem?]
  constructor
  · rintro ⟨j, hj⟩
    by_cases e : j = k
    · subst e; rw [List.getElem?_set_self hk] at hj; injection hj with hj; exact Or.inl hj.symm
    · rw [List.getElem?_set_ne (fun q => e q.symm)] at hj; exact Or.inr ⟨j, e, hj⟩
  · rintro (rfl | ⟨j, e, hj⟩)
    · exact ⟨k, List.getElem?_set_self hk⟩
    · exact ⟨j, by rw [List.getElem?_set_ne (fun q => e q.symm)]; exact hj⟩
section
variable {s s' : St} {H T T' : List Nat} {D : List Int} {l : List Nat} {c k : Nat}
theorem Dg.put (h : Dg s H T D (c :: l)) (hk : hasS s c 4 = (k : Int)) (ho : D[k]? = some (-1)) : Dg s H T (D.set k (c : Int)) l := by
  have ln := h.ln
  rw [List.nodup_cons] at ln
  have hm : ∀ x : Nat, (x : Int) ∈ D.set k (c : Int) ↔ x = c ∨ (x : Int) ∈ D := fun x => by
    rw [mem_set_iff ho]
    constructor
    · rintro (e | ⟨j, _, hj⟩)
      · exact Or.inl (by omega)
      · exact Or.inr (List.mem_of_getElem? hj)
    · rintro (e | hx)
      · exact Or.inl (by rw [e])
      · obtain ⟨j, hj⟩ := List.mem_iff_getElem?.1 hx
        exact Or.inr ⟨j, fun e => by subst e; rw [ho] at hj; injection hj with hj; omega, hj⟩
  refine ⟨h.gh, by rw [List.length_set]; exact h.len, fun j d hj => ?_, fun x => ?_, fun x hx q => ?_, ln.2⟩
  · by_cases e : j = k
    · subst e
      rw [List.getElem?_set_self (by rw [h.len]; have := (List.getElem?_eq_some_iff.1 ho).1; rw [h.len] at this; exact this)] at hj
      injection hj with hj
      exact Or.inr ⟨c, hj.symm, (h.tp c).2 (Or.inl (by simp)), hk⟩
    · rw [List.getElem?_set_ne (fun q => e q.symm)] at hj; exact h.dv j d hj
  · rw [h.tp x, hm x, List.mem_cons]
    constructor
    · rintro ((e | hx) | hx)
      · exact Or.inr (Or.inl e)
      · exact Or.inl hx
      · exact Or.inr (Or.inr hx)
    · rintro (hx | e | hx)
      · exact Or.inl (Or.inr hx)
      · exact Or.inl (Or.inl e)
      · exact Or.inr hx
  · rcases (hm x).1 q with e | q
    · exact ln.1 (e ▸ hx)
    · exact h.ap x (List.mem_cons_of_mem _ hx) q
theorem Dg.link {b a b' : Nat} (h : Dg s H T D (c :: l)) (hk : hasS s c 4 = (k : Int)) (ho : D[k]? = some (b : Int)) (hab : (a = b ∧ b' = c) ∨ (a = c ∧ b' = b)) (q : Lkd s s' H T T' a b') : Dg s' H T' (D.set k (-1)) (a :: l) := by
  have ln := h.ln
  rw [List.nodup_cons] at ln
  have hbD : (b : Int) ∈ D := List.mem_of_getElem? ho
  have hcD : (c : Int) ∉ D := h.ap c (by simp)
  have hbc : b ≠ c := fun e => hcD (e ▸ hbD)
  have rb : hasS s b 4 = (k : Int) := by
    rcases h.dv k _ ho with e | ⟨n, e, _, e2⟩
    · omega
    · have : b = n := by omega
      rw [this]; exact e2
  have hbl : b ∉ l := fun z => h.ap b (List.mem_cons_of_mem _ z) hbD
  have once : ∀ j, D[j]? = some (b : Int) → j = k := fun j hj => by
    rcases h.dv j _ hj with e | ⟨n, e, _, e2⟩
    · omega
    · have : b = n := by omega
      rw [← this, rb] at e2; omega
  have hm : ∀ x : Nat, (x : Int) ∈ D.set k (-1) ↔ (x : Int) ∈ D ∧ x ≠ b := fun x => by
    rw [mem_set_iff ho]
    constructor
    · rintro (e | ⟨j, hne, hj⟩)
      · omega
      · exact ⟨List.mem_of_getElem? hj, fun e => hne (once j (e ▸ hj))⟩
    · rintro ⟨hx, hne⟩
      obtain ⟨j, hj⟩ := List.mem_iff_getElem?.1 hx
      exact Or.inr ⟨j, fun e => by subst e; rw [ho] at hj; injection hj with hj; omega, hj⟩
  refine ⟨q.gh, by rw [List.length_set]; exact h.len, fun j d hj => ?_, fun x => ?_, fun x hx z => ?_, ?_⟩
  · by_cases e : j = k
    · subst e
      rw [List.getElem?_set_self (by have := (List.getElem?_eq_some_iff.1 ho).1; exact this)] at hj
      injection hj with hj
      exact Or.inl hj.symm
    · rw [List.getElem?_set_ne (fun q => e q.symm)] at hj
      rcases h.dv j d hj with e1 | ⟨n, e1, e2, e3⟩
      · exact Or.inl e1
      · have n1 : n ≠ b := fun z => e (once j (by rw [hj, e1, z]))
        have n2 : n ≠ c := fun z => hcD (z ▸ e1 ▸ List.mem_of_getElem? hj)
        refine Or.inr ⟨n, e1, (q.mem n).2 ⟨e2, by rcases hab with ⟨_, z⟩ | ⟨_, z⟩ <;> rw [z] <;> assumption⟩, ?_⟩
        rw [q.rk, if_neg (by rcases hab with ⟨z, _⟩ | ⟨z, _⟩ <;> rw [z] <;> assumption)]; exact e3
  · rw [q.mem x, h.tp x, hm x, List.mem_cons, List.mem_cons]
    constructor
    · rintro ⟨(e | hx) | hx, hne⟩
      · rcases hab with ⟨z1, z2⟩ | ⟨z1, z2⟩
        · exact absurd (e.trans z2.symm) hne
        · exact Or.inl (Or.inl (e.trans z1.symm))
      · exact Or.inl (Or.inr hx)
      · by_cases e : x = b
        · rcases hab with ⟨z1, z2⟩ | ⟨z1, z2⟩
          · exact Or.inl (Or.inl (e.trans z1.symm))
          · exact absurd (e.trans z2.symm) hne
        · exact Or.inr ⟨hx, e⟩
    · rintro ((e | hx) | ⟨hx, e⟩)
      · rcases hab with ⟨z1, z2⟩ | ⟨z1, z2⟩
        · exact ⟨Or.inr (by rw [e, z1]; exact hbD), by rw [e, z1, z2]; exact hbc⟩
        · exact ⟨Or.inl (Or.inl (e.trans z1)), by rw [e, z1, z2]; exact fun z => hbc z.symm⟩
      · refine ⟨Or.inl (Or.inr hx), ?_⟩
        rcases hab with ⟨_, z2⟩ | ⟨_, z2⟩ <;> rw [z2]
        · exact fun z => ln.1 (z ▸ hx)
        · exact fun z => hbl (z ▸ hx)
      · refine ⟨Or.inr hx, ?_⟩
        rcases hab with ⟨_, z2⟩ | ⟨_, z2⟩ <;> rw [z2]
        · exact fun z => hcD (z ▸ hx)
        · exact e
  · have z2 := (hm x).1 z
    rcases List.mem_cons.1 hx with e | hx
    · rcases hab with ⟨z1, _⟩ | ⟨z1, _⟩
      · exact z2.2 (e.trans z1)
      · exact hcD (by rw [← e.trans z1]; exact z2.1)
    · exact h.ap x (List.mem_cons_of_mem _ hx) z2.1
  · rw [List.nodup_cons]
    refine ⟨?_, ln.2⟩
    rcases hab with ⟨z1, _⟩ | ⟨z1, _⟩ <;> rw [z1]
    · exact hbl
    · exact ln.1
end
theorem Lkd.len {s s' : St} {H T T' : List Nat} {a b : Nat} (q : Lkd s s' H T T' a b) (hn : T.Nodup) (hb : b ∈ T) : T'.length + 1 = T.length := by
  have h1 : T'.Perm (T.erase b) := (List.perm_ext_iff_of_nodup q.gh.fh.top.nd (hn.erase b)).2 fun x => by rw [q.mem x, hn.mem_erase_iff, and_comm]
  have h2 := (List.perm_cons_erase hb).length_eq
  rw [h1.length_eq, h2, List.length_cons]

section
variable {F : Nat → Prop} {w w' : World} {pa pm : Nat} {s : St} {H T : List Nat}
set_option maxHeartbeats 4000000 in
theorem carryT (dg : Nat) (D : List Int) (n : Nat) (l : List Nat) (hD : Dg s H T D (n :: l)) (hdl : Dl w dg D) (hdg : ¬ F dg) (hH : H.length ≤ 1000) (ok : Ok s)
    (h : IsA w F pa pm s) (hs : s.steps + 28 * T.length ≤ 99990000) :
    Calls Tryz.prog 85 #[.pointer (some ⟨pa, 0, none⟩), .slice (some ⟨dg, 0, none⟩) 22 22, .int .i64 (n : Int)] w fun e w' =>
      e = .returned (.tuple #[]) ∧ ∃ (D' : List Int) (s' : St) (T' : List Nat), Dg s' H T' D' l ∧ Dl w' dg D' ∧ IsA w' F pa pm s' ∧ Kept (fun b => F b ∨ b = dg) w w' ∧ Kp s s' H ∧ mks (hasS s') H = mks (hasS s) H ∧ s.steps ≤ s'.steps ∧ s'.steps + 28 * T'.length ≤ s.steps + 28 * T.length + 1 := by
  have nT : n ∈ T := (hD.tp n).2 (Or.inl (by simp))
  have nH := ((hD.gh.fh.top.mem n).1 nT).1
  obtain ⟨r0, hr0, hr1⟩ := rank_14 hD.gh.fh hD.gh.fb hH nH
  have G := hid (getT (n : Int) 4 (Ex.start h) (by omega))
  rw [show getS s (n : Int) 4 = (r0 : Int) from (get_nat (j := 4) (hD.gh.fh.ln n nH) (by decide)).trans hr0] at G
  have HR0 := hid hr0
  have HD0 := hid hD
  have HL0 := hid hdl
  have HS := hid hs
  have HDG := hid hdg
  have OK := hid ok
  obtain ⟨N0, hN0⟩ : ∃ N0, N0 = s.steps + 28 * T.length := ⟨_, rfl⟩
  have HN0 := hid hN0
  clear hD hdl h hs hdg hN0 hr0 nT nH ok
  go_enter Tryz.func85, Tryz.ntmps85
  go_wp2_with fail
  refine G.out.mono ?_
  rintro e w1 ⟨rfl, h1⟩
  have H1 := hid h1
  clear h1 G
  go_wp2_with fail
  go_loopw [2, 6] (fun tv kv wr => ∃ (E : List Int) (c k : Nat) (r : St) (U : List Nat), tv = .int .i64 (c : Int) ∧ kv = .int .i64 (k : Int) ∧ k ≤ 14 ∧ Hid (hasS r c 4 = (k : Int)) ∧ Hid (Dg r H U E (c :: l)) ∧ Hid (Dl wr dg E) ∧ Hid (IsA wr F pa pm r) ∧ Hid (Kept (fun b => F b ∨ b = dg) w wr) ∧ Hid (Kp s r H ∧ mks (hasS r) H = mks (hasS s) H ∧ s.steps ≤ r.steps ∧ r.steps + 28 * U.length ≤ N0 + 1)) (fun _ kv _ => 22 - (intOf kv).toNat)
  case atStart => exact ⟨D, n, r0, tk s 1, T, rfl, rfl, hr1, HR0, hid ⟨HD0.out.gh.tk 1, HD0.out.len, HD0.out.dv, HD0.out.tp, HD0.out.ap, HD0.out.ln⟩, hid (HL0.out.kept H1.out.kept HDG.out), hid H1.out.is, hid (H1.out.kept.mono fun _ e => Or.inl e), hid ⟨Kp.tk OK.out 1 H, rfl, by show s.steps ≤ s.steps + 1; omega, by show s.steps + 1 + _ ≤ _; rw [HN0.out]; omega⟩⟩
  case round =>
    clear HD0 HL0 H1 hr1 HR0
    obtain ⟨E, c, k, r, U, rfl, rfl, hk14, hck, hD, hL, hA, hK, hP⟩ := hrel
    have hk22 : (k : Int) < 22 := by omega
    have hk0 : 0 ≤ (k : Int) := by omega
    have hl22 := hid hD.out.len
    have hkE : k < E.length := by rw [hl22.out]; omega
    obtain ⟨o, ho⟩ : ∃ o, E[k]? = some o := ⟨_, List.getElem?_eq_getElem hkE⟩
    have c1 := hL.out.at hl22.out ho
    have f1 := World.ownsRow.frozenAt hL.out k
    rcases hD.out.dv k o ho with e | ⟨b, e, bT, brk⟩
    · subst e
      have HO := hid ho
      have c1' : wr.cell? ⟨dg, k, none⟩ = some (.int .i64 (-1)) := c1
      clear ho c1 hkE
      go_wp2
      refine bodyPost_ret (results_none rfl _ _ _) rfl ?_
      exact ⟨rfl, E.set k (c : Int), r, U, hD.out.put hck.out HO.out, hL.out.set hl22.out (by omega) _, hA.out.kept ((Kept.refl (fun b => b = dg) _).setCell (Or.inl rfl) _) (fun j hj e => HDG.out (e ▸ hj)), hK.out.setCell (Or.inl (Or.inr rfl)) _, hP.out.1, hP.out.2.1, hP.out.2.2.1, by have := hP.out.2.2.2; rw [HN0.out] at this; omega⟩
    · subst e
      have HO := hid ho
      have c1' : wr.cell? ⟨dg, k, none⟩ = some (.int .i64 (b : Int)) := c1
      have hne : ((b : Int) == -1) = false := by simp
      have cT := (hD.out.tp c).2 (Or.inl (by simp))
      have hbc : b ≠ c := fun e => hD.out.ap c (by simp) (e ▸ List.mem_of_getElem? ho)
      have hcT := hid cT
      have hbT := hid bT
      have LK := hid (linkT b c hD.out.gh bT cT hbc (brk.trans hck.out.symm) (by omega) hP.out.1.sm.ok (Ex.start hA.out) (by have h1 := hP.out.2.2.2; rw [HN0.out] at h1; have h2 := HS.out; omega))
      clear ho c1 hkE bT brk cT hbc
      go_wp2_with fail
      refine LK.out.mono ?_
      rintro e w2 ⟨a, b', s', T', rfl, hab, e2, st1, st2, q⟩
      have DN := hid (hD.out.link hck.out HO.out hab q)
      have RN := hid (show hasS s' a 4 = ((k + 1 : Nat) : Int) by
        rw [q.rk, if_pos rfl]
        rcases hab with ⟨z, _⟩ | ⟨z, _⟩
        · have : hasS r b 4 = (k : Int) := by
            rcases hD.out.dv k _ HO.out with e | ⟨n, e, _, e2⟩
            · omega
            · have : b = n := by omega
              rw [this]; exact e2
          rw [z, this]; omega
        · rw [z, hck.out]; omega)
      have R14 := rank_14 q.gh.fh q.gh.fb hH ((DN.out.gh.fh.top.mem a).1 ((DN.out.tp a).2 (Or.inl (by simp)))).1
      have hk1 : k + 1 ≤ 14 := by
        obtain ⟨r1, z1, z2⟩ := R14
        rw [RN.out] at z1; omega
      have LEN := q.len hD.out.gh.fh.top.nd (by rcases hab with ⟨_, z⟩ | ⟨_, z⟩ <;> rw [z]; exact hcT.out; exact hbT.out)
      have P2 := hid (show Kp s s' H ∧ mks (hasS s') H = mks (hasS s) H ∧ s.steps ≤ s'.steps ∧ s'.steps + 28 * T'.length ≤ N0 + 1 from ⟨hP.out.1.trans q.kp, q.mrk.trans hP.out.2.1, by have := hP.out.2.2.1; omega, by have := hP.out.2.2.2; omega⟩)
      have E2 := hid e2
      have L2 := hid (hL.out.kept e2.kept HDG.out)
      have c2 := L2.out.at hl22.out HO.out
      have f2 := World.ownsRow.frozenAt L2.out k
      clear e2 LK q R14 LEN st1 st2 hD hck hP hab
      go_wp2
      go_roundw
      case rel => exact ⟨E.set k (-1), a, k + 1, s', T', rfl, by go_num, hk1, RN, DN, hid (L2.out.set hl22.out (by omega) _), hid (E2.out.is.kept ((Kept.refl (fun b => b = dg) _).setCell (Or.inl rfl) _) (fun j hj e => HDG.out (e ▸ hj))), hid ((hK.out.trans' (E2.out.kept.mono fun _ e => Or.inl e)).setCell (Or.inl (Or.inr rfl)) _), P2⟩
      case measure => simp [intOf]; omega
end
end Go.Proofs.YtckoglddhkbgkabGreat

/- The walk of merge: trees of unlike Ranks, and the root. -/
namespace Go.Proofs.YtckoglddhkbgkabGreat
open Go.ChangeShapes Go.WideShapes Go.ChangeAt Go.RowKit
open Tr

theorem Kept.over {T F : Nat → Prop} {a b c : World} (h : Kept T a b) (k : Kept F b c) (hF : ∀ i, F i → T i ∨ a.heap.size ≤ i) : Kept T a c :=
  ⟨k.os.trans h.os, k.tape.trans h.tape, k.output.trans h.output, Nat.le_trans h.size k.size, fun i hi hn => (k.block i (Nat.lt_of_lt_of_le hi h.size) fun q => (hF i q).elim hn fun z => by omega).trans (h.block i hi hn)⟩
/-- the first is before all others -/
def Lto (f : Nat → Nat → Int) : List Nat → Prop
  | [] => True
  | r :: x => ∀ c ∈ r :: x, befF f (itF f c) (itF f r) = false
theorem Gh.rot {s : St} {H x y : List Nat} (h : Gh s H (x ++ y)) : Gh s H (y ++ x) := ⟨h.fh.rot, h.od, h.fb⟩
/-- the best of the digits that are gone through -/
def Bst (f : Nat → Nat → Int) (D : List Int) (j : Nat) (o : Int) : Prop :=
  (o = -1 ∧ ∀ i d, i < j → D[i]? = some d → d = -1) ∨ ∃ r : Nat, o = (r : Int) ∧ (r : Int) ∈ D ∧ ∀ i (c : Nat), i < j → D[i]? = some (c : Int) → befF f (itF f c) (itF f r) = false
theorem Bst.next {s : St} {H T : List Nat} {D : List Int} {l : List Nat} (h : Dg s H T D l) {j : Nat} {o d : Int} (b : Bst (hasS s) D j o) (hd : D[j]? = some d) :
    (o = -1 → Bst (hasS s) D (j + 1) d) ∧ (d = -1 → Bst (hasS s) D (j + 1) o) ∧ ∀ n m : Nat, o = (n : Int) → d = (m : Int) → Bst (hasS s) D (j + 1) (if befF (hasS s) (itF (hasS s) m) (itF (hasS s) n) = true then (m : Int) else (n : Int)) := by
  have irr : ∀ c : Nat, befF (hasS s) (itF (hasS s) c) (itF (hasS s) c) = false := fun c => by
    cases q : befF (hasS s) (itF (hasS s) c) (itF (hasS s) c) with
    | false => rfl
    | true => exact ((befF_tot (hasS s)).one _ _ q).symm.trans q |> fun z => by simp_all
  refine ⟨fun e => ?_, fun e => ?_, fun n m e1 e2 => ?_⟩
  · rcases b with ⟨_, b⟩ | ⟨r, e2, _⟩
    · rcases h.dv j d hd with z | ⟨m, z, _, _⟩
      · refine Or.inl ⟨z, fun i v hi hv => ?_⟩
        by_cases q : i = j
        · subst q; rw [hd] at hv; injection hv with hv; rw [← hv]; exact z
        · exact b i v (by omega) hv
      · refine Or.inr ⟨m, z, by rw [← z]; exact List.mem_of_getElem? hd, fun i c hi hv => ?_⟩
        by_cases q : i = j
        · subst q
          rw [hd, z] at hv
          injection hv with hv
          have : m = c := by omega
          rw [this]; exact irr c
        · have := b i _ (by omega) hv; omega
    · omega
  · rcases b with ⟨e2, b⟩ | ⟨r, e2, b1, b2⟩
    · refine Or.inl ⟨e2, fun i v hi hv => ?_⟩
      by_cases q : i = j
      · subst q; rw [hd] at hv; injection hv with hv; rw [← hv]; exact e
      · exact b i v (by omega) hv
    · refine Or.inr ⟨r, e2, b1, fun i c hi hv => ?_⟩
      by_cases q : i = j
      · subst q; rw [hd] at hv; injection hv with hv; omega
      · exact b2 i c (by omega) hv
  · rcases b with ⟨e3, _⟩ | ⟨r, e3, b1, b2⟩
    · omega
    · have : r = n := by omega
      subst this
      cases q : befF (hasS s) (itF (hasS s) m) (itF (hasS s) r) with
      | true =>
        rw [if_pos rfl]
        refine Or.inr ⟨m, rfl, by rw [← e2]; exact List.mem_of_getElem? hd, fun i c hi hv => ?_⟩
        by_cases z : i = j
        · subst z
          rw [hd, e2] at hv
          injection hv with hv
          have : m = c := by omega
          rw [this]; exact irr c
        · exact (befF_tot (hasS s)).le _ _ _ ((befF_tot (hasS s)).one _ _ q) (b2 i c (by omega) hv)
      | false =>
        rw [if_neg (by simp)]
        refine Or.inr ⟨r, rfl, b1, fun i c hi hv => ?_⟩
        by_cases z : i = j
        · subst z
          rw [hd, e2] at hv
          injection hv with hv
          have : m = c := by omega
          rw [← this]; exact q
        · exact b2 i c (by omega) hv
/-- what merge tells -/
theorem Bst.root {s : St} {H T : List Nat} {D : List Int} (h : Dg s H T D []) {o : Int} (b : Bst (hasS s) D 22 o) : ∃ T', o = hdL T' ∧ Gh s H T' ∧ Lto (hasS s) T' ∧ T'.length = T.length ∧ ∀ a ∈ T', ∀ b ∈ T', hasS s a 4 = hasS s b 4 → a = b := by
  have tp : ∀ c : Nat, c ∈ T ↔ (c : Int) ∈ D := fun c => by rw [h.tp c]; simp
  have un : ∀ a ∈ T, ∀ b ∈ T, hasS s a 4 = hasS s b 4 → a = b := fun a ha b hb e => by
    obtain ⟨i, hi⟩ := List.mem_iff_getElem?.1 ((tp a).1 ha)
    obtain ⟨j, hj⟩ := List.mem_iff_getElem?.1 ((tp b).1 hb)
    rcases h.dv i _ hi with z | ⟨n, z1, _, z2⟩
    · omega
    · rcases h.dv j _ hj with y | ⟨m, y1, _, y2⟩
      · omega
      · have e1 : a = n := by omega
        have e2 : b = m := by omega
        rw [← e1] at z2
        rw [← e2] at y2
        have : i = j := by rw [z2, y2] at e; omega
        subst this
        rw [hi] at hj
        injection hj with hj
        omega
  rcases b with ⟨e, b⟩ | ⟨r, e, b1, b2⟩
  · have : T = [] := by
      cases T with
      | nil => rfl
      | cons c x =>
        obtain ⟨i, hi⟩ := List.mem_iff_getElem?.1 ((tp c).1 (by simp))
        have hl := (List.getElem?_eq_some_iff.1 hi).1
        have := b i _ (by rw [h.len] at hl; exact hl) hi
        omega
    subst this
    exact ⟨[], e, h.gh, trivial, rfl, un⟩
  · obtain ⟨x, y, hxy⟩ := List.append_of_mem ((tp r).2 b1)
    have g := h.gh
    rw [hxy] at g
    have pm : (r :: (y ++ x)).Perm T := by rw [hxy]; exact List.perm_append_comm (l₁ := r :: y) (l₂ := x)
    refine ⟨r :: (y ++ x), e, g.rot (x := x) (y := r :: y), fun c hc => ?_, pm.length_eq, fun a ha b hb => un a (pm.mem_iff.1 ha) b (pm.mem_iff.1 hb)⟩
    obtain ⟨i, hi⟩ := List.mem_iff_getElem?.1 ((tp c).1 (pm.mem_iff.1 hc))
    have hl := (List.getElem?_eq_some_iff.1 hi).1
    exact b2 i c (by rw [h.len] at hl; exact hl) hi

section
variable {F : Nat → Prop} {w w' : World} {pa pm : Nat} {s : St} {H T : List Nat}
set_option maxHeartbeats 4000000 in
theorem mergeT (l : List Nat) (v : Value) (h : Gh s H T) (hl : ∀ c, c ∈ T ↔ c ∈ l) (hln : l.Nodup) (hH : H.length ≤ 1000) (ok : Ok s) (hL : Lst w v (nd1 l)) (hLf : ∀ a n c, v = .slice (some a) n c → ¬ F a.block) (hA : IsA w F pa pm s) (hs : s.steps ≤ 99000000) :
    Calls Tryz.prog 71 #[.pointer (some ⟨pa, 0, none⟩), v] w fun e w' =>
      ∃ (s' : St) (T' : List Nat), e = .returned (.int .i64 (hdL T')) ∧ Gh s' H T' ∧ Lto (hasS s') T' ∧ IsA w' F pa pm s' ∧ Kept F w w' ∧ Kp s s' H ∧ mks (hasS s') H = mks (hasS s) H ∧ s.steps ≤ s'.steps ∧ s'.steps + 28 * T'.length ≤ s.steps + 29 * T.length + 132 ∧ ∀ a ∈ T', ∀ b ∈ T', hasS s' a 4 = hasS s' b 4 → a = b := by
  have hlen : l.length = T.length := ((List.perm_ext_iff_of_nodup hln h.fh.top.nd).2 fun c => (hl c).symm).length_eq
  have hT1 : T.length ≤ 1000 := Nat.le_trans (nodup_sub_len h.fh.top.nd fun c hc => ((h.fh.top.mem c).1 hc).1) hH
  obtain ⟨va, vc, rfl, z1, z2, z3, z4⟩ := hL
  have hnl : (nd1 l).length = l.length := nd1_len l
  have HNL := hid hnl
  have Z4 := hid z4
  have HLF := hid hLf
  have HFL := hid hA.lt
  have OK := hid ok
  have G0 := hid h
  have HL := hid hl
  have HLN := hid hln
  have NEW := hid (heap_alloc_new w (.cells #[.int .i64 (-1)] 3))
  have RP := hid (repeatT w.heap.size (w.alloc (.cells #[.int .i64 (-1)] 3)) (by simp) (blk_cell NEW.out rfl))
  have A1 := hid (hA.kept ((Kept.refl (fun _ => False) w).alloc (.cells #[.int .i64 (-1)] 3)) (fun _ _ e => e))
  have K1 := hid ((Kept.refl F w).alloc (.cells #[.int .i64 (-1)] 3))
  have hsz1 : (w.alloc (.cells #[.int .i64 (-1)] 3)).heap.size = w.heap.size + 1 := by simp
  rw [hnl] at z1 ⊢
  have HLEN := hid hlen
  have hl1 : l.length ≤ 1000 := by omega
  clear z2 z3 z4 hLf hA ok h hl hln NEW hnl hlen
  go_enter Tryz.func71, Tryz.ntmps71
  go_wp2_with fail
  refine RP.out.mono ?_
  rintro e w2 ⟨dg, rfl, o2, b2⟩
  have DL := hid (show Dl w2 dg (List.replicate 22 (-1)) from ⟨o2.1, o2.2.imp id fun ⟨g, cap, cur, e, _, r⟩ => ⟨g, cap, cur, e, Nat.zero_le _, r⟩⟩)
  have hdg : w.heap.size < dg := by have := (World.ownsRow.lt o2 dg rfl).1; omega
  have A2 := hid (A1.out.kept (Kept.of_below (F := fun _ => False) b2) (fun _ _ e => e))
  have K2 := hid (K1.out.trans' (Kept.of_below b2))
  have HDG := hid (show ¬ F dg from fun q => by have := HFL.out dg q; omega)
  clear o2 b2 RP A1 K1 hsz1
  go_wp2_with fail
  go_loopw [15] (fun iv wr => ∃ (j : Nat) (E : List Int) (r : St) (U : List Nat), iv = .int .i64 (j : Int) ∧ j ≤ l.length ∧ Hid (Dg r H U E (l.drop j)) ∧ Hid (Dl wr dg E) ∧ Hid (IsA wr F pa pm r) ∧ Hid (Kept F w wr) ∧ Hid (Kp s r H ∧ mks (hasS r) H = mks (hasS s) H) ∧ s.steps ≤ r.steps ∧ r.steps + 28 * U.length ≤ s.steps + 28 * T.length + j) (fun iv _ => l.length - (intOf iv).toNat)
  case atStart => exact ⟨0, List.replicate 22 (-1), s, T, rfl, Nat.zero_le _, hid ⟨G0.out, by simp, fun k d hk => by
      rw [List.getElem?_replicate] at hk
      split at hk <;> simp at hk
      exact Or.inl hk.symm, fun c => by rw [HL.out c, List.drop_zero]; exact ⟨Or.inl, fun q => q.resolve_right fun z => by have := (List.mem_replicate.1 z).2; omega⟩, fun c _ z => by have := (List.mem_replicate.1 z).2; omega, by rw [List.drop_zero]; exact HLN.out⟩, DL, A2, K2, hid ⟨Kp.refl OK.out H, rfl⟩, Nat.le_refl _, by omega⟩
  case round =>
    clear DL A2 K2 G0
    obtain ⟨j, E, r, U, rfl, hj, hD, hDL, hA, hK, hP, s1, s2⟩ := hrel
    by_cases hlt : j < l.length
    · have hx : l[j]? = some l[j] := List.getElem?_eq_getElem hlt
      have DR := hid (show l.drop j = l[j] :: l.drop (j + 1) from List.drop_eq_getElem_cons hlt)
      generalize l[j] = x at hx DR
      have hxn := nd1_at hx
      rcases Z4.out with e | ⟨b, off, rfl, hb, hc⟩
      · have h1 : (nd1 l).length = 0 := by rw [e]; rfl
        rw [HNL.out] at h1
        omega
      have c1 : wr.cell? ⟨b, off + j, none⟩ = some (.int .i64 (x : Int)) := (hK.out.cell (p := ⟨b, off + j, none⟩) hb (show ¬ F b from HLF.out _ _ _ rfl)).trans (hc _ _ hxn)
      have hlt' : (j : Int) < (l.length : Int) := by omega
      have hD' := hD.out
      rw [DR.out] at hD'
      have C := hid (carryT dg E x (l.drop (j + 1)) hD' hDL.out HDG.out hH hP.out.1.sm.ok hA.out (by omega))
      clear hx hxn hc hD' hD hDL hA
      go_wp2_with fail
      refine C.out.mono ?_
      rintro e w3 ⟨rfl, E', r', U', d3, l3, a3, k3, p3, m3, t1, t2⟩
      have D3 := hid d3
      have L3 := hid l3
      have A3 := hid a3
      have K3 := hid (Kept.over hK.out k3 (fun i hi => by rcases hi with hi | hi; exact Or.inl hi; exact Or.inr (by omega)))
      have P3 := hid (And.intro (hP.out.1.trans p3) (m3.trans hP.out.2))
      have T3 := hid (And.intro t1 t2)
      clear d3 l3 a3 k3 p3 m3 t1 t2 C hK hP
      go_wp2
      go_roundw
      case rel => exact ⟨j + 1, E', r', U', by go_num, by omega, D3, L3, A3, K3, P3, by have := T3.out.1; omega, by have := T3.out.2; omega⟩
      case measure => simp [intOf]; omega
    · obtain rfl : j = l.length := by omega
      have D0 := hid (show Dg r H U E [] by have := hD.out; rwa [List.drop_length] at this)
      have hE22 := hid D0.out.len
      obtain ⟨wq, rfl⟩ : ∃ wq, wq = wr := ⟨_, rfl⟩
      have hKq := hK.out.size
      clear hD hlt
      go_wp2_with fail
      go_loopw [8, 26] (fun ov iv wr => ∃ (i k : Nat) (o : Int), ov = .int .i64 o ∧ iv = .int .i64 (i : Int) ∧ i ≤ 22 ∧ k ≤ 6 * i ∧ Hid (Bst (hasS r) E i o) ∧ Hid (Ex F wq wr pa pm (tk r k))) (fun _ iv _ => 22 - (intOf iv).toNat)
      case atStart => exact ⟨0, 0, -1, rfl, rfl, by omega, by omega, hid (Or.inl ⟨rfl, fun i d hi => by omega⟩), hid (Ex.start hA.out)⟩
      case round =>
        obtain ⟨i, k, o, rfl, rfl, hi, hk, hB, hE⟩ := hrel
        by_cases hi22 : i < 22
        · have hi' : (i : Int) < 22 := by omega
          obtain ⟨d, hd⟩ : ∃ d, E[i]? = some d := ⟨_, List.getElem?_eq_getElem (by rw [hE22.out]; exact hi22)⟩
          have c1 := (hDL.out.kept hE.out.kept HDG.out).at hE22.out hd
          obtain ⟨n1, n2, n3⟩ := Bst.next D0.out hB.out hd
          by_cases q1 : o = -1
          · subst q1
            have FT := hid (fun w => firstT_l (pa := pa) d w)
            have N1 := hid (n1 rfl)
            clear n1 n2 n3 hd
            go_wp2_with fail
            refine (FT.out _).mono ?_
            rintro e w5 ⟨rfl, rfl⟩
            clear FT
            go_wp2
            go_roundw
            case rel => exact ⟨i + 1, k, d, rfl, by go_num, by omega, by omega, N1, hE⟩
            case measure => simp [intOf]; omega
          · obtain ⟨n, rfl⟩ : ∃ n : Nat, o = (n : Int) := by
              rcases hB.out with ⟨z, _⟩ | ⟨n, z, _⟩
              · exact absurd z q1
              · exact ⟨n, z⟩
            rcases D0.out.dv i d hd with q2 | ⟨m, q2, mT, _⟩
            · subst q2
              have FT := hid (fun w => firstT_r (pa := pa) n w)
              have N2 := hid (n2 rfl)
              clear n1 n2 n3 hd q1
              go_wp2_with fail
              refine (FT.out _).mono ?_
              rintro e w5 ⟨rfl, rfl⟩
              clear FT
              go_wp2
              go_roundw
              case rel => exact ⟨i + 1, k, (n : Int), rfl, by go_num, by omega, by omega, N2, hE⟩
              case measure => simp [intOf]; omega
            · subst q2
              have nD : (n : Int) ∈ E := by
                rcases hB.out with ⟨z, _⟩ | ⟨n', z, z2, _⟩
                · omega
                · rw [z]; exact z2
              have nH := ((D0.out.gh.fh.top.mem n).1 ((D0.out.tp n).2 (Or.inr nD))).1
              have mH := ((D0.out.gh.fh.top.mem m).1 mT).1
              have FT := hid (firstT (s := tk r k) n m nH mH (D0.out.gh.tk k).fh (Sm.tk hP.out.1.sm.ok k).ok hE.out (by show r.steps + k ≤ _; omega))
              have N3 := hid (n3 n m rfl rfl)
              clear n1 n2 n3 hd q1 nD nH mH mT
              go_wp2_with fail
              refine FT.out.mono ?_
              rintro e w5 ⟨rfl, e5⟩
              have E5 := hid (show Ex F wq w5 pa pm (tk r (k + 6)) by rw [← tk_tk]; exact e5)
              clear e5 FT hE
              go_wp2
              go_roundw
              case rel => exact ⟨i + 1, k + 6, _, rfl, by go_num, by omega, by omega, N3, E5⟩
              case measure => simp [intOf]; omega
        · obtain rfl : i = 22 := by omega
          obtain ⟨T', e1, g1, l1, len1, un1⟩ := Bst.root D0.out hB.out
          have E1 := hid e1
          have G1 := hid g1
          have L1 := hid l1
          have U1 := hid un1
          have KK := hid (hK.out.trans' hE.out.kept)
          clear e1 g1 l1 un1 hB
          go_wp2
          go_ret
          exact ⟨tk r k, T', by rw [E1.out]; rfl, G1.out.tk k, L1.out, hE.out.is, KK.out, hP.out.1.trans (Kp.tk hP.out.1.sm.ok k H), hP.out.2, by show _ ≤ r.steps + k; omega, by show r.steps + k + _ ≤ _; have := HLEN.out; omega, U1.out⟩
end
end Go.Proofs.YtckoglddhkbgkabGreat
