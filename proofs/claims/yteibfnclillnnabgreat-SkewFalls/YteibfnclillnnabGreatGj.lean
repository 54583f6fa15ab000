/- Several texts in one. -/
import Derived.Test.YteibfnclillnnabGreatGb
import Derived.Test.YteibfnclillnnabGreatGc
import Derived.Test.YteibfnclillnnabGreatGi
/- The reference's Bits, Add, Limit. -/
namespace Go.Proofs.YteibfnclillnnabGreat
open Go.ChangeShapes Go.WideShapes Go.ChangeAt Go.RowKit

/-- how many binary digits n has -/
def bts (n : Nat) : Nat := if h : n = 0 then 0 else bts (n / 2) + 1
termination_by n
decreasing_by omega
theorem bts_zero : bts 0 = 0 := by unfold bts; rfl
theorem bts_half {n : Nat} (h : 0 < n) : bts n = bts (n / 2) + 1 := by rw [bts, dif_neg (by omega)]
theorem bts_lt : ∀ n : Nat, n < 2 ^ bts n := fun n => by
  induction n using Nat.strongRecOn with
  | ind n ih =>
    by_cases h : n = 0
    · subst h; simp [bts_zero]
    · have := ih (n / 2) (by omega)
      rw [bts_half (by omega), Nat.pow_succ]
      omega
theorem bts_le : ∀ (k n : Nat), n < 2 ^ k → bts n ≤ k
  | 0, n, h => by have : n = 0 := by simpa using h
                  subst this; rw [bts_zero]; exact Nat.le_refl _
  | k + 1, n, h => by
    by_cases h0 : n = 0
    · subst h0; rw [bts_zero]; omega
    · rw [bts_half (by omega)]
      have := bts_le k (n / 2) (by rw [Nat.pow_succ] at h; omega)
      omega

set_option maxHeartbeats 400000 in
theorem bitsR (n : Nat) (hn : n < 1048576) (w : World) :
    Calls Tryz.prog 66 #[.int .i64 (n : Int)] w fun e w' => e = .returned (.int .i64 (bts n : Nat)) ∧ w' = w := by
  have hb := bts_le 20 n hn
  go_enter Tryz.func66, Tryz.ntmps66
  go_wp2
  go_loop [0, 3] (fun m k => ∃ (x j : Nat), m = .int .i64 x ∧ k = .int .i64 j ∧ x < 1048576 ∧ j + bts x = bts n) (fun m _ => (intOf m).toNat)
  case atStart => exact ⟨n, 0, rfl, rfl, hn, by omega⟩
  case round =>
    obtain ⟨x, j, rfl, rfl, hx, hj⟩ := hrel
    have HJ := hid hj
    have hj20 : j ≤ 20 := by omega
    clear hj hb
    by_cases p : 0 < x
    · have p' : (0 : Int) < (x : Int) := by omega
      go_wp2
      go_round
      case rel => exact ⟨x / 2, j + 1, by go_num, by go_num, by omega, by have := HJ.out; rw [bts_half p] at this; omega⟩
      case measure => simp [intOf]; omega
    · obtain rfl : x = 0 := by omega
      go_wp2
      go_ret
      exact ⟨ret_int (by have := HJ.out; rw [bts_zero] at this; omega), rfl⟩

set_option maxHeartbeats 400000 in
theorem addR (a : Nat) (ha : a ≤ 1000000) (w : World) :
    Calls Tryz.prog 67 #[.int .i64 (a : Int), .int .i64 400] w fun e w' => e = .returned (.int .i64 ((a + 400 : Nat) : Int)) ∧ w' = w := by
  by_cases p : 0 < a
  · have p' : (0 : Int) < (a : Int) := by omega
    have q' : decide (9223372036854775807 - (a : Int) < 400) = false := by simp; omega
    go_enter Tryz.func67, Tryz.ntmps67
    go_wp2
    go_ret
    exact ⟨ret_int (by omega), rfl⟩
  · obtain rfl : a = 0 := by omega
    go_enter Tryz.func67, Tryz.ntmps67
    go_wp2
    go_ret
    exact ⟨ret_int (by omega), rfl⟩

set_option maxHeartbeats 400000 in
theorem limitR (n : Nat) (hn : n < 1048576) (w : World) :
    Calls Tryz.prog 44 #[.int .i64 500, .int .i64 400, .int .i64 (n : Int)] w fun e w' => e = .returned (.int .i64 ((500 + 400 * bts n : Nat) : Int)) ∧ w' = w := by
  have hb := bts_le 20 n hn
  have hc := hid (fun w => bitsR n hn w)
  generalize bts n = m at hb hc ⊢
  clear hn
  go_enter Tryz.func44, Tryz.ntmps44
  go_wp2_with fail
  refine (hc.out _).mono ?_
  rintro e w' ⟨rfl, rfl⟩
  clear hc
  go_wp2_with fail
  go_loop [7, 8] (fun s i => ∃ k : Nat, k ≤ m ∧ i = .int .i64 k ∧ s = .int .i64 ((500 + 400 * (m - k) : Nat) : Int)) (fun _ i => (intOf i).toNat)
  case atStart => exact ⟨m, Nat.le_refl _, rfl, by rw [Nat.sub_self]; rfl⟩
  case round =>
    obtain ⟨k, hk, rfl, rfl⟩ := hrel
    by_cases hlt : 0 < k
    · obtain ⟨z, hz⟩ : ∃ z, z = 500 + 400 * (m - k) := ⟨_, rfl⟩
      rw [← hz]
      have A := hid (fun w => addR z (by omega) w)
      have HZ := hid hz
      have hlt' : (0 : Int) < (k : Int) := by omega
      clear hz
      go_wp2_with fail
      refine (A.out _).mono ?_
      rintro e w' ⟨rfl, rfl⟩
      go_wp2
      go_round
      case rel => exact ⟨k - 1, by omega, by go_num, by rw [HZ.out]; congr 2; omega⟩
      case measure => simp [intOf]; omega
    · obtain rfl : k = 0 := by omega
      go_wp2
      go_ret
      exact ⟨ret_int (by simp), rfl⟩
end Go.Proofs.YteibfnclillnnabGreat

/- The laws' own world: an arena, two roots, two lists of what is held, three counters. -/
namespace Go.Proofs.YteibfnclillnnabGreat
open Go.ChangeShapes Go.WideShapes Go.ChangeAt Go.RowKit

/-- what is left alone: all of w but T -/
structure Fm where
  w : World
  T : Nat → Prop
def Fm.of (w : World) : Fm := ⟨w, fun _ => False⟩
theorem Kept.over {T F : Nat → Prop} {a b c : World} (h : Kept T a b) (k : Kept F b c) (hF : ∀ i, F i → T i ∨ a.heap.size ≤ i) : Kept T a c :=
  ⟨k.os.trans h.os, k.tape.trans h.tape, k.output.trans h.output, Nat.le_trans h.size k.size, fun i hi hn =>
    (k.block i (Nat.lt_of_lt_of_le hi h.size) (fun e => by rcases hF i e with q | q; exact hn q; omega)).trans (h.block i hi hn)⟩
/-- the world at pw -/
structure Wx (w0 : Fm) (w : World) (F : Nat → Prop) (pw pa pm : Nat) (v0 v1 : Value) (s : St) (r0 r1 : Int) (L0 L1 : List (Nat × Int × Int)) (nx sp mo : Int) : Prop where
  blk : w.heap[pw]? = some (.cells #[.pointer (some ⟨pa, 0, none⟩), .int .i64 r0, .int .i64 r1, v0, v1, .int .i64 nx, .int .i64 sp, .int .i64 mo] 32)
  is : IsA w F pa pm s
  out : ¬ F pw
  l0 : Lz (fun b => ¬ F b ∧ b ≠ pw) w v0 L0
  l1 : Lz (fun b => ¬ F b ∧ b ≠ pw) w v1 L1
  new : ∀ k, F k → w0.T k ∨ w0.w.heap.size ≤ k
  pwn : w0.T pw ∨ w0.w.heap.size ≤ pw
  kep : Kept w0.T w0.w w

section
variable {w0 : Fm} {w w' : World} {F : Nat → Prop} {pw pa pm : Nat} {v0 v1 : Value} {s s' : St} {r0 r1 : Int} {L0 L1 : List (Nat × Int × Int)} {nx sp mo : Int}
theorem Wx.lt (h : Wx w0 w F pw pa pm v0 v1 s r0 r1 L0 L1 nx sp mo) : pw < w.heap.size := lt_of_block h.blk
/-- a call of the arena that makes no blocks of its own -/
theorem Wx.ex (h : Wx w0 w F pw pa pm v0 v1 s r0 r1 L0 L1 nx sp mo) (e : Ex F w w' pa pm s') : Wx w0 w' F pw pa pm v0 v1 s' r0 r1 L0 L1 nx sp mo :=
  ⟨(e.kept.block pw h.lt h.out).trans h.blk, e.is, h.out, h.l0.kept e.kept (fun _ q => q.1), h.l1.kept e.kept (fun _ q => q.1), h.new, h.pwn, h.kep.over e.kept h.new⟩
theorem Wx.aft (h : Wx w0 w F pw pa pm v0 v1 s r0 r1 L0 L1 nx sp mo) (e : Aft F w w' pa pm s') : Wx w0 w' (Grow F w w') pw pa pm v0 v1 s' r0 r1 L0 L1 nx sp mo :=
  ⟨(e.kept.block pw h.lt h.out).trans h.blk, e.is, fun q => q.elim h.out fun q => by have := h.lt; omega,
   (h.l0.mono (Q := fun b => (¬ F b ∧ b ≠ pw) ∧ b < w.heap.size) (fun b hb q => ⟨q, hb⟩) |>.kept e.kept (fun _ q => q.1.1)).mono (fun b _ q => ⟨fun z => z.elim q.1.1 fun z => by have := q.2; omega, q.1.2⟩),
   (h.l1.mono (Q := fun b => (¬ F b ∧ b ≠ pw) ∧ b < w.heap.size) (fun b hb q => ⟨q, hb⟩) |>.kept e.kept (fun _ q => q.1.1)).mono (fun b _ q => ⟨fun z => z.elim q.1.1 fun z => by have := q.2; omega, q.1.2⟩),
   fun k q => q.elim (h.new k) fun q => Or.inr (Nat.le_trans h.kep.size q.1), h.pwn, h.kep.over e.kept h.new⟩
theorem Wx.plain (h : Wx w0 w F pw pa pm v0 v1 s r0 r1 L0 L1 nx sp mo) (k : Kept (fun _ => False) w w') : Wx w0 w' F pw pa pm v0 v1 s r0 r1 L0 L1 nx sp mo := h.ex ((Ex.start h.is).plain k)
theorem Wx.drewN (h : Wx w0 w F pw pa pm v0 v1 s r0 r1 L0 L1 nx sp mo) (n : Nat) : Wx w0 (w.drewN n) F pw pa pm v0 v1 s r0 r1 L0 L1 nx sp mo := h.plain ((Kept.refl _ _).drewN n)
/-- the block of the world is written -/
theorem Wx.wrote {v0' v1' : Value} {r0' r1' nx' sp' mo' : Int} {L0' L1' : List (Nat × Int × Int)} (h : Wx w0 w F pw pa pm v0 v1 s r0 r1 L0 L1 nx sp mo) (k : Kept (fun b => b = pw) w w')
    (hb : w'.heap[pw]? = some (.cells #[.pointer (some ⟨pa, 0, none⟩), .int .i64 r0', .int .i64 r1', v0', v1', .int .i64 nx', .int .i64 sp', .int .i64 mo'] 32)) (h0 : Lz (fun b => ¬ F b ∧ b ≠ pw) w' v0' L0') (h1 : Lz (fun b => ¬ F b ∧ b ≠ pw) w' v1' L1') :
    Wx w0 w' F pw pa pm v0' v1' s r0' r1' L0' L1' nx' sp' mo' :=
  ⟨hb, h.is.kept k (fun b hF q => h.out (q ▸ hF)), h.out, h0, h1, h.new, h.pwn, h.kep.over k fun b q => by rw [q]; exact h.pwn⟩
theorem Wx.cells (h : Wx w0 w F pw pa pm v0 v1 s r0 r1 L0 L1 nx sp mo) : w.cell? ⟨pw, 0, none⟩ = some (.pointer (some ⟨pa, 0, none⟩)) ∧ w.cell? ⟨pw, 1, none⟩ = some (.int .i64 r0) ∧ w.cell? ⟨pw, 2, none⟩ = some (.int .i64 r1) ∧ w.cell? ⟨pw, 3, none⟩ = some v0 ∧ w.cell? ⟨pw, 4, none⟩ = some v1 ∧ w.cell? ⟨pw, 5, none⟩ = some (.int .i64 nx) ∧ w.cell? ⟨pw, 6, none⟩ = some (.int .i64 sp) ∧ w.cell? ⟨pw, 7, none⟩ = some (.int .i64 mo) ∧ (∀ j, w.frozen? ⟨pw, j, none⟩ = false) :=
  ⟨blk_cell h.blk rfl, blk_cell h.blk rfl, blk_cell h.blk rfl, blk_cell h.blk rfl, blk_cell h.blk rfl, blk_cell h.blk rfl, blk_cell h.blk rfl, blk_cell h.blk rfl, fun _ => blk_free h.blk⟩
end
theorem kept_pw (w : World) (g o : Nat) (u : Value) : Kept (fun k => k = g) w (w.setCell ⟨g, o, none⟩ u) := (Kept.refl (fun k => k = g) w).setCell (p := ⟨g, o, none⟩) (Or.inl rfl) u

set_option maxHeartbeats 2000000 in
theorem costW (n t : Nat) (hn : n < 1048576) {w0 : Fm} {w : World} {F : Nat → Prop} {pw pa pm : Nat} {v0 v1 : Value} {s : St} {r0 r1 : Int} {L0 L1 : List (Nat × Int × Int)} {nx sp mo : Int} (h : Wx w0 w F pw pa pm v0 v1 s r0 r1 L0 L1 nx sp mo) (ht : t ≤ s.steps) (hs : s.steps ≤ 100000000) :
    Calls Tryz.prog 18 #[.pointer (some ⟨pw, 0, none⟩), .int .i64 (t : Int), .int .i64 1, .int .i64 (n : Int)] w fun e w' => e = .returned (.bool (decide (s.steps ≤ t + (500 + 400 * bts n)))) ∧ ∃ sp' mo', Wx w0 w' F pw pa pm v0 v1 s r0 r1 L0 L1 nx sp' mo' := by
  have HW := hid h
  have M := hid (meterA pa pm s F w h.is)
  have T := hid (stepsA pa pm s F w h.is)
  have B20 := bts_le 20 n hn
  have LI := hid (fun w => limitR n hn w)
  generalize bts n = bn at *
  obtain ⟨c0, c1, c2, c3, c4, c5, c6, c7, cf⟩ := h.cells
  have hlt := h.lt
  have f6 := cf 6
  have f7 := cf 7
  clear h c1 c2 c3 c4 c5 cf hn
  generalize hq : s.steps = q at *
  clear hq
  obtain ⟨x, hx⟩ : ∃ x : Nat, (q : Int) - (t : Int) = (x : Int) := ⟨q - t, by omega⟩
  have HX := hid hx
  have hx1 : x ≤ 100000000 := by omega
  obtain ⟨y, hy⟩ : ∃ y : Nat, y = 500 + 400 * bn := ⟨_, rfl⟩
  rw [← hy] at LI ⊢
  have hy1 : y ≤ 10000 := by omega
  have HY := hid hy
  clear hy
  go_enter Tryz.func18, Tryz.ntmps18
  go_wp2_with fail
  refine M.out.mono ?_
  rintro e w1 ⟨rfl, rfl⟩
  go_wp2_with fail
  refine T.out.mono ?_
  rintro e w2 ⟨rfl, rfl⟩
  go_wp2_with fail
  refine (LI.out _).mono ?_
  rintro e w3 ⟨rfl, rfl⟩
  clear M T LI
  go_wp2_with fail
  go_region
  go_wp2
  go_ret
  have b1 := blk_set (j := 6) (u := .int .i64 (wrap64 (sp + x))) HW.out.blk
  have b2 := blk_set (j := 7) (u := .int .i64 (wrap64 (mo + y))) b1
  have kk := ((kept_pw w3 pw 6 (.int .i64 (wrap64 (sp + x)))).trans' (kept_pw _ pw 7 (.int .i64 (wrap64 (mo + y))))).drew
  refine ⟨ret_bool ?_, wrap64 (sp + x), wrap64 (mo + y), HW.out.wrote kk (by have b3 := b2; simp at b3; exact b3) (HW.out.l0.kept kk fun _ q => q.2) (HW.out.l1.kept kk fun _ q => q.2)⟩
  have := HX.out
  by_cases z : x ≤ y
  · rw [decide_eq_true (by omega), decide_eq_true (by omega)]
  · rw [decide_eq_false (by omega), decide_eq_false (by omega)]
set_option maxHeartbeats 2000000 in
theorem costW0 (n t : Nat) {w0 : Fm} {w : World} {F : Nat → Prop} {pw pa pm : Nat} {v0 v1 : Value} {s : St} {r0 r1 : Int} {L0 L1 : List (Nat × Int × Int)} {nx sp mo : Int} (h : Wx w0 w F pw pa pm v0 v1 s r0 r1 L0 L1 nx sp mo) (ht : t ≤ s.steps) (hs : s.steps ≤ 100000000) :
    Calls Tryz.prog 18 #[.pointer (some ⟨pw, 0, none⟩), .int .i64 (t : Int), .int .i64 0, .int .i64 (n : Int)] w fun e w' => e = .returned (.bool (decide (s.steps ≤ t + 500))) ∧ ∃ sp' mo', Wx w0 w' F pw pa pm v0 v1 s r0 r1 L0 L1 nx sp' mo' := by
  have HW := hid h
  have M := hid (meterA pa pm s F w h.is)
  have T := hid (stepsA pa pm s F w h.is)
  obtain ⟨c0, c1, c2, c3, c4, c5, c6, c7, cf⟩ := h.cells
  have hlt := h.lt
  have f6 := cf 6
  have f7 := cf 7
  clear h c1 c2 c3 c4 c5 cf
  generalize hq : s.steps = q at *
  clear hq
  obtain ⟨x, hx⟩ : ∃ x : Nat, (q : Int) - (t : Int) = (x : Int) := ⟨q - t, by omega⟩
  have HX := hid hx
  have hx1 : x ≤ 100000000 := by omega
  go_enter Tryz.func18, Tryz.ntmps18
  go_wp2_with fail
  refine M.out.mono ?_
  rintro e w1 ⟨rfl, rfl⟩
  go_wp2_with fail
  refine T.out.mono ?_
  rintro e w2 ⟨rfl, rfl⟩
  clear M T
  go_wp2_with fail
  go_region
  go_wp2
  go_ret
  have b1 := blk_set (j := 6) (u := .int .i64 (wrap64 (sp + x))) HW.out.blk
  have b2 := blk_set (j := 7) (u := .int .i64 (wrap64 (mo + 500))) b1
  have kk := ((kept_pw w2 pw 6 (.int .i64 (wrap64 (sp + x)))).trans' (kept_pw _ pw 7 (.int .i64 (wrap64 (mo + 500))))).drew
  refine ⟨ret_bool ?_, wrap64 (sp + x), wrap64 (mo + 500), HW.out.wrote kk (by have b3 := b2; simp at b3; exact b3) (HW.out.l0.kept kk fun _ q => q.2) (HW.out.l1.kept kk fun _ q => q.2)⟩
  have := HX.out
  by_cases z : x ≤ 500
  · rw [decide_eq_true (by omega), decide_eq_true (by omega)]
  · rw [decide_eq_false (by omega), decide_eq_false (by omega)]
end Go.Proofs.YteibfnclillnnabGreat

/- A tree of a heap whose items change their nodes; Fall and Cut, over heaps and lists. -/
namespace Go.Proofs.YteibfnclillnnabGreat
open Go.ChangeShapes Go.WideShapes Go.ChangeAt Go.RowKit
open Tr

theorem bts_self : ∀ n : Nat, bts n ≤ n := fun n => bts_le n n (Nat.lt_two_pow_self)
theorem bts_pos {n : Nat} (h : 0 < n) : 1 ≤ bts n := by rw [bts_half h]; omega
theorem tree_split {t : List Bn} {i : Nat} (h : i ∈ its t) : ∃ l1 b l2, t = l1 ++ b :: l2 ∧ i ∈ b.items := by
  obtain ⟨b, hb, hi⟩ := List.mem_flatMap.1 h
  obtain ⟨l1, l2, e⟩ := List.append_of_mem hb
  exact ⟨l1, b, l2, e, hi⟩
theorem headr_sub {l1 l2 : List Bn} {b b' : Bn} (hn : b'.n = b.n) : headr (l1 ++ b' :: l2) = headr (l1 ++ b :: l2) := by
  cases l1 with
  | nil => show (b'.n : Int) = b.n; rw [hn]
  | cons c r => rfl
theorem nds_sub {l1 l2 : List Bn} {b b' : Bn} (hn : b'.n = b.n) : nds (l1 ++ b' :: l2) = nds (l1 ++ b :: l2) := by simp [nds, hn]
theorem Chs.sub {f : Nat → Nat → Int} {b b' : Bn} (hn : b'.n = b.n) (hr : b'.rk = b.rk) : ∀ {k : Nat} {l : Int} {l1 l2 : List Bn}, Chs f k l (l1 ++ b :: l2) → Chs f k l (l1 ++ b' :: l2)
  | _, _, [], l2, h => ⟨by rw [hr]; exact h.1, by rw [hn]; exact h.2.1, by rw [hr]; exact h.2.2⟩
  | _, _, c :: r, l2, h => ⟨h.1, h.2.1.trans (headr_sub hn).symm, Chs.sub hn hr h.2.2⟩
theorem Vw.seven {L : Nat → Bool} {f : Nat → Nat → Int} {c : Nat} {v : Int} : ∀ {up : Int} {t : Tr}, Vw L f up t → Vw L (put f c 7 v) up t
  | _, lf, _ => trivial
  | up, nd n i k r, ⟨⟨h1, h2, h3, h4, h5, h6, h7, h8, h9⟩, hk, hr⟩ =>
    ⟨⟨h1, h2, by rw [put_nj (by decide)]; exact h3, by rw [put_nj (by decide)]; exact h4, by rw [put_nj (by decide)]; exact h5, by rw [put_nj (by decide)]; exact h6, by rw [put_nj (by decide)]; exact h7, by rw [put_nj (by decide)]; exact h8, by rw [put_nj (by decide)]; exact h9⟩, Vw.seven hk, Vw.seven hr⟩
theorem Vb.seven {L : Nat → Bool} {f : Nat → Nat → Int} {c : Nat} {v : Int} {b : Bn} (h : Vb L f b) : Vb L (put f c 7 v) b :=
  ⟨h.ln, h.li, by rw [put_nj (by decide)]; exact h.up, by rw [put_nj (by decide)]; exact h.down, by rw [put_nj (by decide)]; exact h.left, by rw [put_nj (by decide)]; exact h.rank, by rw [put_nj (by decide)]; exact h.item, by rw [put_nj (by decide)]; exact h.node, h.kids.seven⟩
theorem bef_low {f : Nat → Nat → Int} {i j : Nat} {v : Int} (hv : v ≤ f i 7) (hj : j ≠ i) (h : befF f j i = false) : befF (put f i 7 v) j i = false := by
  have e1 : put f i 7 v j = f j := put_ne hj
  have e2 : put f i 7 v i 7 = v := put_at
  have e3 : put f i 7 v i 8 = f i 8 := put_nj (by decide)
  simp only [befF, bef, e1, e2, e3] at h ⊢
  simp at h ⊢
  omega
theorem bef_other {f : Nat → Nat → Int} {i a b : Nat} {v : Int} (ha : a ≠ i) (hb : b ≠ i) : befF f a b = befF (put f i 7 v) a b := by
  unfold befF; rw [put_ne ha, put_ne hb]

/-- the heap with b' in b's place -/
theorem lv_heap {s0 s : St} {i k : Nat} {l1 l2 : List Bn} {b b' : Bn} {U : List Nat} (hv : ∀ c ∈ l1 ++ b :: l2, Vb (LS s0) (hasS s0) c) (hc : Chs (hasS s0) 0 (-1) (l1 ++ b :: l2)) (hn : (cel (l1 ++ b :: l2)).Nodup) (hr : ∀ c ∈ l1 ++ b :: l2, c.rk < 16)
    (h : Lv s0 s i b b' U k) : (∀ c ∈ l1 ++ b' :: l2, Vb (LS s) (hasS s) c) ∧ Chs (hasS s) 0 (-1) (l1 ++ b' :: l2) ∧ (cel (l1 ++ b' :: l2)).Perm (cel (l1 ++ b :: l2)) ∧ (its (l1 ++ b' :: l2)).Perm (its (l1 ++ b :: l2)) ∧ ∀ c ∈ l1 ++ b' :: l2, c.rk < 16 := by
  refine ⟨fun c hc => ?_, (hc.sub h.n h.rk).like fun c _ => h.right c.n, ?_, ?_, fun c hc => ?_⟩
  · by_cases e : c ∈ l1 ++ l2
    · have hct : c ∈ l1 ++ b :: l2 := by rw [List.mem_append] at e ⊢; rcases e with e | e; exact Or.inl e; exact Or.inr (by simp [e])
      have hnb : ∀ x ∈ c.cells, x ∉ b.cells := fun x hx hb => by
        have hn' := hn
        unfold cel at hn'
        rw [List.flatMap_append, List.flatMap_cons, List.nodup_append] at hn'
        rcases List.mem_append.1 e with e | e
        · exact hn'.2.2 x (List.mem_flatMap.2 ⟨c, e, hx⟩) x (by simp [hb]) rfl
        · have := hn'.2.1
          rw [List.nodup_append] at this
          exact this.2.2 x hb x (List.mem_flatMap.2 ⟨c, e, hx⟩) rfl
      refine (hv c hct).like (fun x hx => ⟨by rw [h.sm.ls], fun j _ => h.oth x (hnb x hx) j⟩) ?_
      have := flat_nodup hn c hct
      simp only [Bn.cells, List.nodup_cons, List.mem_cons, not_or] at this
      exact this.1.2
    · have : c = b' := by
        rw [List.mem_append, List.mem_cons] at hc
        rw [List.mem_append, not_or] at e
        rcases hc with hc | hc | hc
        · exact absurd hc e.1
        · exact hc
        · exact absurd hc e.2
      subst this
      exact h.vb
  · unfold cel
    rw [List.flatMap_append, List.flatMap_append, List.flatMap_cons, List.flatMap_cons]
    exact List.Perm.append_left _ (h.cells.append_right _)
  · unfold its
    rw [List.flatMap_append, List.flatMap_append, List.flatMap_cons, List.flatMap_cons]
    exact List.Perm.append_left _ (h.items.append_right _)
  · rw [List.mem_append, List.mem_cons] at hc
    rcases hc with hc | hc | hc
    · exact hr c (by simp [hc])
    · subst hc; rw [h.rk]; exact hr b (by simp)
    · exact hr c (by simp [hc])
/-- a tree's items are no other tree's -/
theorem one_item {l1 l2 : List Bn} {b c : Bn} {i : Nat} (hn : (cel (l1 ++ b :: l2)).Nodup) (hb : i ∈ b.items) (hc : c ∈ l1 ++ l2) : i ∉ c.items := fun hi => by
  unfold cel at hn
  rw [List.flatMap_append, List.flatMap_cons, List.nodup_append] at hn
  rcases List.mem_append.1 hc with e | e
  · exact hn.2.2 i (List.mem_flatMap.2 ⟨c, e, bn_items hi⟩) i (by simp [bn_items hb]) rfl
  · have := hn.2.1
    rw [List.nodup_append] at this
    exact this.2.2 i (bn_items hb) i (List.mem_flatMap.2 ⟨c, e, bn_items hi⟩) rfl

section
variable {s : St} {t u : List Bn} {L M l1 l2 : List (Nat × Int × Int)} {x : Nat × Int × Int}
theorem hh_nodup (h : Hh s t L) : (L.map fun x => x.1).Nodup := by
  refine h.pm.nodup_iff.2 ?_
  have : ∀ {t : List Bn}, (cel t).Nodup → (its t).Nodup := fun {t} => by
    induction t with
    | nil => intro _; exact .nil
    | cons b r ih =>
      intro hn
      unfold cel at hn
      unfold its
      rw [List.flatMap_cons, List.nodup_append] at hn ⊢
      refine ⟨bn_items_nodup hn.1, ih hn.2.1, fun a ha c hc e => ?_⟩
      obtain ⟨d, hd, hcd⟩ := List.mem_flatMap.1 hc
      exact hn.2.2 a (bn_items ha) c (List.mem_flatMap.2 ⟨d, hd, bn_items hcd⟩) e
  exact this h.gd.nd
/-- Fall, of an item whose Key was lowered: ahead of Rise, and behind it -/
theorem fall_inv (h : Inv s t u L M) (hL : L = l1 ++ x :: l2) (key : Int) (hk : key ≤ x.2.1) :
    lowB s (x.1 : Int) key = true ∧ (lowS s (x.1 : Int) key).steps = s.steps + 2 ∧ (lowS s (x.1 : Int) key).most = s.most ∧ Ok (lowS s (x.1 : Int) key) ∧
    ∃ (b : Bn) (y : Nat) (U : List Nat), Lv (lowS s (x.1 : Int) key) (lowS s (x.1 : Int) key) x.1 b b U 0 ∧ LoB (befF (hasS (lowS s (x.1 : Int) key))) x.1 b ∧ hasS (lowS s (x.1 : Int) key) x.1 9 = (y : Int) ∧ LS (lowS s (x.1 : Int) key) y = true ∧ LS (lowS s (x.1 : Int) key) x.1 = true ∧ U.length ≤ 16 ∧ wayS (lowS s (x.1 : Int) key) 16 (y : Int) = U.map (fun (c : Nat) => (c : Int)) ∧
      ∀ b' s' k, Lv (lowS s (x.1 : Int) key) s' x.1 b b' U k → Gb (befF (hasS (lowS s (x.1 : Int) key))) b' → ∃ t', headr t' = headr t ∧ Inv s' t' u (l1 ++ l2 ++ [(x.1, key, x.2.2)]) M := by
  obtain ⟨i, k0, ser⟩ := x
  simp only at hk ⊢
  have hxm : (i, k0, ser) ∈ L := by rw [hL]; simp
  have hen := h.a.en _ hxm
  simp only at hen
  have him : i ∈ its t := h.a.mem hxm
  have lii : LS s i = true := h.a.gd.live i (its_sub him)
  have hiu : i ∉ cel u := h.dj i (its_sub him)
  have g7 : getS s (i : Int) 7 = k0 := (get_nat (j := 7) lii (by decide)).trans hen.1
  have eB : lowB s (i : Int) key = true := by unfold lowB; rw [g7, if_neg (by omega)]; exact may_nat (j := 7) lii (by decide)
  have eS : lowS s (i : Int) key = setS (tk s 1) (i : Int) 7 key := by unfold lowS; rw [g7, if_neg (by omega)]
  have sm : Sm s (lowS s (i : Int) key) := by rw [eS]; exact (Sm.tk h.ok 1).trans (Sm.set (Sm.tk h.ok 1).ok _ _ _)
  have hv : hasS (lowS s (i : Int) key) = put (hasS s) i 7 key := by rw [eS]; exact set_has (s := tk s 1) (j := 7) lii (by decide)
  have est : (lowS s (i : Int) key).steps = s.steps + 2 := by rw [eS, set_steps]; rfl
  refine ⟨eB, est, sm.most, sm.ok, ?_⟩
  generalize lowS s (i : Int) key = s1 at *
  obtain ⟨a1, b, a2, et, hib⟩ := tree_split him
  subst et
  have hbm : b ∈ a1 ++ b :: a2 := by simp
  have hvb : ∀ c ∈ a1 ++ b :: a2, Vb (LS s1) (hasS s1) c := fun c hc => by rw [sm.ls, hv]; exact ((h.a.gd.vb c hc).1).seven
  have hch : Chs (hasS s1) 0 (-1) (a1 ++ b :: a2) := h.a.gd.ch.like fun c _ => by rw [hv, put_nj (by decide)]
  have hlow : Low (befF (hasS s)) (befF (hasS s1)) i := ⟨fun a c ha hc => by rw [hv]; exact (bef_other ha hc).symm, fun c hc q => by rw [hv]; exact bef_low (by rw [hen.1]; exact hk) hc q⟩
  have nb : b.cells.Nodup := flat_nodup h.a.gd.nd b hbm
  obtain ⟨jb, lo⟩ := jb_start (befF_tot _) hlow (h.a.gd.vb b hbm).2 (bn_items_nodup nb)
  obtain ⟨y, U, l0, y1, y2, y3, y4, y5⟩ := Lv.start sm.ok (hvb b hbm) jb nb hib
  have hU : U.length ≤ 16 := by have := h.a.gd.rk b hbm; omega
  refine ⟨b, y, U, l0, lo, y1, y2, y3, hU, y5 16 hU, fun b' s' k lv gb => ?_⟩
  obtain ⟨v1, v2, v3, v4, v5⟩ := lv_heap hvb hch h.a.gd.nd h.a.gd.rk lv
  have e : befF (hasS s') = befF (hasS s1) := by funext a c; exact bef_key lv.key a c
  have hnd := hh_nodup h.a
  rw [hL, List.map_append, List.map_cons] at hnd
  refine ⟨a1 ++ b' :: a2, headr_sub lv.n, lv.sm.ok, ⟨⟨fun c hc => ⟨v1 c hc, ?_⟩, v2, v3.nodup_iff.2 h.a.gd.nd, v5, by have := h.a.gd.ln; simp at this ⊢; exact this⟩, ?_, fun z hz => ?_⟩, h.b.keep fun c hc => ⟨by rw [lv.sm.ls, sm.ls], fun j => ?_⟩, fun c hc => h.dj c (v3.mem_iff.1 hc), ?_⟩
  · rw [e]
    by_cases q : c ∈ a1 ++ a2
    · have hct : c ∈ a1 ++ b :: a2 := by rw [List.mem_append] at q ⊢; rcases q with q | q; exact Or.inl q; exact Or.inr (by simp [q])
      have hni := one_item h.a.gd.nd hib q
      have hg := (h.a.gd.vb c hct).2
      simp only [Bn.items, List.mem_cons, not_or] at hni
      exact ⟨hg.1, Hu.turn hlow.off (fun z => hni.1 z.symm) hni.2 hg.2⟩
    · have : c = b' := by
        rw [List.mem_append, List.mem_cons] at hc
        rw [List.mem_append, not_or] at q
        rcases hc with hc | hc | hc
        · exact absurd hc q.1
        · exact hc
        · exact absurd hc q.2
      subst this
      exact gb
  · refine List.Perm.trans ?_ v4.symm
    refine List.Perm.trans ?_ h.a.pm
    rw [hL]
    simp only [List.map_append, List.map_cons, List.map_nil, List.append_assoc]
    refine List.Perm.append_left _ ?_
    exact List.perm_append_comm
  · have k7 : ∀ c, c ≠ i → hasS s' c 7 = hasS s c 7 ∧ hasS s' c 8 = hasS s c 8 := fun c hc => ⟨by rw [(lv.key c).1, hv, put_ne hc], by rw [(lv.key c).2, hv, put_ne hc]⟩
    rw [List.mem_append] at hz
    rcases hz with hz | hz
    · have hzi : z.1 ≠ i := fun q => by
        rw [List.nodup_append, List.nodup_cons] at hnd
        rcases List.mem_append.1 hz with w | w
        · exact hnd.2.2 i (List.mem_map.2 ⟨z, w, q⟩) i (by simp) rfl
        · exact hnd.2.1.1 (List.mem_map.2 ⟨z, w, q⟩)
      rw [(k7 z.1 hzi).1, (k7 z.1 hzi).2]
      exact h.a.en z (by rw [hL]; rw [List.mem_append] at hz; simp; rcases hz with w | w; exact Or.inl w; exact Or.inr (Or.inr w))
    · simp at hz; subst hz
      simp only
      exact ⟨by rw [(lv.key i).1, hv, put_at], by rw [(lv.key i).2, hv, put_nj (by decide)]; exact hen.2⟩
  · have hcb : c ∉ b.cells := fun q => h.dj c (List.mem_flatMap.2 ⟨b, hbm, q⟩) hc
    rw [lv.oth c hcb j, hv, put_ne (fun q : c = i => hiu (q ▸ hc))]
  · rw [cnt_sm sm.ok lv.sm, cnt_sm h.ok sm, h.num, hL]; simp
/-- Cut: ahead of Lift, and behind it -/
theorem cut_inv (h : Inv s t u L M) (hL : L = l1 ++ x :: l2) (q : Nat) :
    ∃ (b : Bn) (y : Nat) (U : List Nat), b ∈ t ∧ Lv (tk s q) (tk s q) x.1 b b U 0 ∧ hasS (tk s q) x.1 9 = (y : Int) ∧ LS (tk s q) y = true ∧ LS (tk s q) x.1 = true ∧ U.length ≤ 16 ∧ wayS (tk s q) 16 (y : Int) = U.map (fun (c : Nat) => (c : Int)) ∧
      ∀ b' s2 k, Lv (tk s q) s2 x.1 b b' U k → b'.i = x.1 → ∃ t2, nds t2 = nds t ∧ (∀ c ∈ t2, Vb (LS s2) (hasS s2) c) ∧ (∀ c ∈ t2, c.n ≠ b'.n → Gb (befF (hasS s2)) c) ∧ Gt (befF (hasS s2)) b' ∧ (cel t2).Nodup ∧ b' ∈ t2 ∧ t2.length ≤ 17 ∧ b'.rk < 16 ∧ (its t2).length = L.length ∧
        ∀ vs s', Rmd s2 s' vs b' t2 → Inv1 s' vs u (l1 ++ l2) M x.1 := by
  obtain ⟨i, k0, ser⟩ := x
  simp only
  have hq := h.tk q
  have hxm : (i, k0, ser) ∈ L := by rw [hL]; simp
  have him : i ∈ its t := h.a.mem hxm
  obtain ⟨a1, b, a2, et, hib⟩ := tree_split him
  subst et
  have hbm : b ∈ a1 ++ b :: a2 := by simp
  have nb : b.cells.Nodup := flat_nodup h.a.gd.nd b hbm
  obtain ⟨jb, lo⟩ := jb_start (befF_tot _) (Low.refl _ i) (hq.a.gd.vb b hbm).2 (bn_items_nodup nb)
  obtain ⟨y, U, l0, y1, y2, y3, y4, y5⟩ := Lv.start hq.ok (hq.a.gd.vb b hbm).1 jb nb hib
  have hU : U.length ≤ 16 := by have := h.a.gd.rk b hbm; omega
  refine ⟨b, y, U, hbm, l0, y1, y2, y3, hU, y5 16 hU, fun b' s2 k lv eb => ?_⟩
  obtain ⟨v1, v2, v3, v4, v5⟩ := lv_heap (fun c hc => (hq.a.gd.vb c hc).1) hq.a.gd.ch hq.a.gd.nd hq.a.gd.rk lv
  have e : befF (hasS s2) = befF (hasS s) := by funext a c; exact bef_key lv.key a c
  refine ⟨a1 ++ b' :: a2, nds_sub lv.n, v1, fun c hc hne => ?_, by rw [e]; exact gt_top eb lv.jb, v3.nodup_iff.2 h.a.gd.nd, by simp, by have := h.a.gd.ln; simp at this ⊢; exact this, v5 b' (by simp), by rw [v4.length_eq]; exact h.a.len, fun vs s' r => ?_⟩
  · have hcm : c ∈ a1 ++ a2 := by
      rw [List.mem_append, List.mem_cons] at hc
      rw [List.mem_append]
      rcases hc with hc | hc | hc
      · exact Or.inl hc
      · exact absurd (by rw [hc]) hne
      · exact Or.inr hc
    have hct : c ∈ a1 ++ b :: a2 := by rw [List.mem_append] at hcm ⊢; rcases hcm with w | w; exact Or.inl w; exact Or.inr (by simp [w])
    rw [e]
    exact (h.a.gd.vb c hct).2
  · have hoth : ∀ c, c ∉ cel (a1 ++ b :: a2) → ∀ j, hasS s2 c j = hasS s c j := fun c hc j => lv.oth c (fun w => hc (List.mem_flatMap.2 ⟨b, hbm, w⟩)) j
    exact rmd_inv h lv.sm.ls ((cnt_sm hq.ok lv.sm).trans (by rfl)) lv.key hoth v3 v4 r hL eb.symm
end
end Go.Proofs.YteibfnclillnnabGreat

/- Which item is the least; how great Ranks are; the laws' world and its heaps together. -/
namespace Go.Proofs.YteibfnclillnnabGreat
open Go.ChangeShapes Go.WideShapes Go.ChangeAt Go.RowKit
open Tr

theorem bts_mono {a b : Nat} (h : a ≤ b) : bts a ≤ bts b := bts_le _ _ (Nat.lt_of_le_of_lt h (bts_lt b))
theorem befF_ne {f : Nat → Nat → Int} {a b : Nat} (h : a ≠ b) : befF f a b = true ∨ befF f b a = true := by
  simp [befF, bef]; omega
theorem befF_self (f : Nat → Nat → Int) (a : Nat) : befF f a a = false := by simp [befF, bef]
theorem befH_tot : (∀ x y, befH x y = true → befH y x = false) ∧ (∀ x y z, befH y x = false → befH z y = false → befH z x = false) ∧ (∀ x, befH x x = false) := by
  refine ⟨fun x y h => ?_, fun x y z h1 h2 => ?_, fun x => ?_⟩
  · simp [befH, bef] at h ⊢; omega
  · simp [befH, bef] at h1 h2 ⊢; omega
  · simp [befH, bef]
theorem lst_least (L : List (Nat × Int × Int)) : ∀ j, j < L.length → ∃ y, L[lstS L j]? = some y ∧ ∀ m ≤ j, ∀ x, L[m]? = some x → befH x y = false
  | 0, h => by
    refine ⟨L[0], List.getElem?_eq_getElem h, fun m hm x hx => ?_⟩
    obtain rfl : m = 0 := by omega
    rw [List.getElem?_eq_getElem h] at hx
    injection hx with hx
    subst hx
    exact befH_tot.2.2 _
  | j + 1, h => by
    obtain ⟨y, hy, hl⟩ := lst_least L j (by omega)
    have hx : L[j + 1]? = some L[j + 1] := List.getElem?_eq_getElem h
    unfold lstS
    rw [hx, hy]
    simp only
    by_cases q : befH L[j + 1] y = true
    · rw [if_pos q]
      refine ⟨L[j + 1], hx, fun m hm x hm' => ?_⟩
      by_cases e : m = j + 1
      · subst e; rw [hx] at hm'; injection hm' with hm'; subst hm'; exact befH_tot.2.2 _
      · exact befH_tot.2.1 _ y x (befH_tot.1 _ _ q) (hl m (by omega) x hm')
    · rw [if_neg q]
      refine ⟨y, hy, fun m hm x hm' => ?_⟩
      by_cases e : m = j + 1
      · subst e; rw [hx] at hm'; injection hm' with hm'; subst hm'; simpa using q
      · exact hl m (by omega) x hm'
theorem split_at {α : Type} {L : List α} {k : Nat} {y : α} (h : L[k]? = some y) : L = L.take k ++ y :: L.drop (k + 1) ∧ (L.take k).length = k := by
  obtain ⟨hk, e⟩ := List.getElem?_eq_some_iff.1 h
  subst e
  exact ⟨by rw [← List.drop_eq_getElem_cons hk, List.take_append_drop], by simp; omega⟩
/-- the least is the item of the least top node -/
theorem least_item {s : St} {t : List Bn} {b : Bn} {L : List (Nat × Int × Int)} (h : Hh s t L) (hb : Lst1 (befF (hasS s)) t b) : ∃ x, L[lstS L (L.length - 1)]? = some x ∧ x.1 = b.i := by
  have hbi : b.i ∈ its t := List.mem_flatMap.2 ⟨b, hb.1, by simp [Bn.items]⟩
  have hall : ∀ j ∈ its t, befF (hasS s) j b.i = false := fun j hj => by
    obtain ⟨c, hc, hjc⟩ := List.mem_flatMap.1 hj
    have h1 := hb.2 c hc
    simp only [Bn.items, List.mem_cons] at hjc
    rcases hjc with rfl | hjc
    · exact h1
    · exact (befF_tot _).le _ _ _ h1 (Hu.all (befF_tot _) (h.gd.vb c hc).2.2 j hjc)
  have him : b.i ∈ L.map (fun x => x.1) := h.pm.mem_iff.2 hbi
  obtain ⟨x, hx, hxi⟩ := List.mem_map.1 him
  have hlen : 0 < L.length := List.length_pos_of_mem hx
  obtain ⟨y, hy, hl⟩ := lst_least L (L.length - 1) (by omega)
  refine ⟨y, hy, ?_⟩
  have hF : ∀ x ∈ L, ∀ z ∈ L, befH x z = befF (hasS s) x.1 z.1 := fun x hx z hz => by
    have e1 := h.en x hx
    have e2 := h.en z hz
    unfold befH befF
    rw [e1.1, e1.2, e2.1, e2.2]
  have hym : y ∈ L := List.mem_of_getElem? hy
  obtain ⟨m, hm⟩ := List.mem_iff_getElem?.1 hx
  have hml : m < L.length := (List.getElem?_eq_some_iff.1 hm).1
  have q1 := hl m (by omega) x hm
  rw [hF x hx y hym, hxi] at q1
  have q2 : befF (hasS s) y.1 b.i = false := hall y.1 (h.mem hym)
  rcases Nat.decEq y.1 b.i with e | e
  · rcases befF_ne (f := hasS s) e with z | z
    · rw [q2] at z; cases z
    · rw [q1] at z; cases z
  · exact e

/-- what is left when the least is popped -/
def popL (L : List (Nat × Int × Int)) : List (Nat × Int × Int) := L.take (lstS L (L.length - 1)) ++ L.drop (lstS L (L.length - 1) + 1)
theorem popL_nil : popL [] = [] := rfl
theorem popL_len {L : List (Nat × Int × Int)} (h : L ≠ []) : (popL L).length = L.length - 1 := by
  have h0 : 0 < L.length := List.length_pos_iff.2 h
  have := lstS_le L (L.length - 1)
  unfold popL
  simp; omega

/-- the laws' world: what its heaps hold; how many cells there are; its steps at most -/
def Sit (w0 : Fm) (w : World) (pw N K : Nat) (L0 L1 : List (Nat × Int × Int)) (nx : Int) : Prop := ∃ F pa pm v0 v1 s t u sp mo, Wx w0 w F pw pa pm v0 v1 s (headr t) (headr u) L0 L1 nx sp mo ∧ Inv s t u L0 L1 ∧ s.steps ≤ K ∧ s.most = N
theorem Sit.drewN {w0 : Fm} {w : World} {pw N K : Nat} {L0 L1 : List (Nat × Int × Int)} {nx : Int} (h : Sit w0 w pw N K L0 L1 nx) (n : Nat) : Sit w0 (w.drewN n) pw N K L0 L1 nx := by
  obtain ⟨F, pa, pm, v0, v1, s, t, u, sp, mo, h1, h2⟩ := h
  exact ⟨F, pa, pm, v0, v1, s, t, u, sp, mo, h1.drewN n, h2⟩
theorem Sit.mono {w0 : Fm} {w : World} {pw N K K' : Nat} {L0 L1 : List (Nat × Int × Int)} {nx : Int} (h : Sit w0 w pw N K L0 L1 nx) (hk : K ≤ K') : Sit w0 w pw N K' L0 L1 nx := by
  obtain ⟨F, pa, pm, v0, v1, s, t, u, sp, mo, h1, h2, h3, h4⟩ := h
  exact ⟨F, pa, pm, v0, v1, s, t, u, sp, mo, h1, h2, by omega, h4⟩
theorem Sit.kep {w0 : Fm} {w : World} {pw N K : Nat} {L0 L1 : List (Nat × Int × Int)} {nx : Int} (h : Sit w0 w pw N K L0 L1 nx) : Kept w0.T w0.w w := by
  obtain ⟨F, pa, pm, v0, v1, s, t, u, sp, mo, h1, h2⟩ := h
  exact h1.kep
theorem Sit.bel {w0 w : World} {pw N K : Nat} {L0 L1 : List (Nat × Int × Int)} {nx : Int} (h : Sit (Fm.of w0) w pw N K L0 L1 nx) : Below w0.heap.size w0 w := h.kep.below (Nat.le_refl _) fun _ e => e.elim
theorem Sit.plain {w0 : Fm} {w w' : World} {pw N K : Nat} {L0 L1 : List (Nat × Int × Int)} {nx : Int} (h : Sit w0 w pw N K L0 L1 nx) (k : Kept (fun _ => False) w w') : Sit w0 w' pw N K L0 L1 nx := by
  obtain ⟨F, pa, pm, v0, v1, s, t, u, sp, mo, h1, h2⟩ := h
  exact ⟨F, pa, pm, v0, v1, s, t, u, sp, mo, h1.plain k, h2⟩
/-- from here on: what may turn are the world's own blocks -/
theorem Sit.re {w0 : Fm} {w : World} {pw N K : Nat} {L0 L1 : List (Nat × Int × Int)} {nx : Int} (h : Sit w0 w pw N K L0 L1 nx) :
    ∃ T : Nat → Prop, (∀ b, T b → (w0.T b ∨ w0.w.heap.size ≤ b) ∧ b < w.heap.size) ∧ Sit ⟨w, T⟩ w pw N K L0 L1 nx := by
  obtain ⟨F, pa, pm, v0, v1, s, t, u, sp, mo, h1, h2⟩ := h
  have hlt := h1.lt
  refine ⟨fun b => F b ∨ b = pw, fun b hb => ?_, F, pa, pm, v0, v1, s, t, u, sp, mo, ⟨h1.blk, h1.is, h1.out, h1.l0, h1.l1, fun k hk => Or.inl (Or.inl hk), Or.inl (Or.inr rfl), Kept.refl _ _⟩, h2⟩
  rcases hb with hb | hb
  · exact ⟨h1.new b hb, h1.is.lt b hb⟩
  · subst hb; exact ⟨h1.pwn, hlt⟩
end Go.Proofs.YteibfnclillnnabGreat

/- What the calls answer, over heaps and lists. -/
namespace Go.Proofs.YteibfnclillnnabGreat
open Go.ChangeShapes Go.WideShapes Go.ChangeAt Go.RowKit
open Tr

theorem puB_most (s : St) (i : Int) : (puB s i).most = s.most := by
  unfold puB; rw [set_most, set_most]
  unfold takeS; split
  · rfl
  · split <;> rfl
section
variable {F : Nat → Prop} {w0 w : World} {pa pm : Nat} {s : St} {t u : List Bn} {L M l1 l2 : List (Nat × Int × Int)} {x : Nat × Int × Int} {i : Nat}
theorem room_two (h : Inv s t u L M) : 2 * (L.length + M.length) ≤ s.most := by
  have a := h.ok.count
  have b := h.ok.fits
  have c := h.num
  omega
theorem lst_some {L : List (Nat × Int × Int)} (h : L ≠ []) : ∃ x, L[lstS L (L.length - 1)]? = some x := by
  obtain ⟨y, hy, _⟩ := lst_least L (L.length - 1) (by have := List.length_pos_iff.2 h; omega)
  exact ⟨y, hy⟩
theorem Ex.on {w' : World} {s' : St} (h : Ex F w0 w pa pm s) (e : Ex F w w' pa pm s') : Ex F w0 w' pa pm s' := ⟨e.is, h.kept.trans' e.kept⟩
theorem Aft.on {w' : World} {s' : St} (h : Aft F w0 w pa pm s) (e : Aft (Grow F w0 w) w w' pa pm s') : Aft F w0 w' pa pm s' := h.call e.is e.kept
theorem Aft.onx {w' : World} {s' : St} (h : Aft F w0 w pa pm s) (e : Ex (Grow F w0 w) w w' pa pm s') : Aft F w0 w' pa pm s' := h.back e

/-- Min -/
theorem minC (h : Inv s t u L M) (hs : s.steps ≤ 95000000) (he : Ex F w0 w pa pm s) :
    Calls Tryz.prog 9 #[.pointer (some ⟨pa, 0, none⟩), .int .i64 (headr t)] w fun e w' => ∃ m : Int, e = .returned (.int .i64 m) ∧ (L = [] → m = -1) ∧ (∀ x, L[lstS L (L.length - 1)]? = some x → m = (x.1 : Int)) ∧ ∃ k, k ≤ 200 ∧ Ex F w0 w' pa pm (tk s k) := by
  have hl := h.a.gd.ln
  refine (bminT t (fun b hb => (h.a.gd.vb b hb).1) h.a.gd.ch (tops_nodup h.a.gd.nd) h.ok (by omega) (fun b hb => by have := h.a.gd.rk b hb; omega) he.is (by omega)).mono ?_
  rintro e w1 ⟨o, k, rfl, lo, hk, a1, q1⟩
  refine ⟨_, rfl, fun hL => ?_, fun x hx => ?_, k, by omega, a1, he.kept.trans' q1⟩
  · have ht := h.a.none.2 hL
    subst ht
    cases o with
    | none => rfl
    | some b => exact absurd lo.1 (by simp)
  · cases o with
    | none =>
      have ht : t = [] := lo
      have hL := h.a.none.1 ht
      subst hL
      simp at hx
    | some b =>
      obtain ⟨y, hy, hyi⟩ := least_item h.a lo
      rw [hx] at hy
      injection hy with hy
      subst hy
      show (b.i : Int) = _
      rw [hyi]
/-- Pop of none -/
theorem popC_none (h : Inv s t u [] M) (hs : s.steps ≤ 95000000) (he : Ex F w0 w pa pm s) :
    Calls Tryz.prog 19 #[.pointer (some ⟨pa, 0, none⟩), .int .i64 (headr t)] w fun e w' => ∃ k : Nat, e = .returned (.tuple #[.int .i64 (-1), .int .i64 (-1)]) ∧ k ≤ 10 ∧ Ex F w0 w' pa pm (tk s k) := by
  have ht := h.a.none.2 rfl
  subst ht
  refine (bpopT_none h.ok he.is (by omega)).mono ?_
  rintro e w1 ⟨k, rfl, hk, e1⟩
  exact ⟨k, rfl, hk, he.on e1⟩
/-- Pop -/
theorem popC (h : Inv s t u L M) (hl : L.length ≤ 1000) (hxx : L[lstS L (L.length - 1)]? = some x) (hs : s.steps ≤ 95000000) (he : Aft F w0 w pa pm s) :
    Calls Tryz.prog 19 #[.pointer (some ⟨pa, 0, none⟩), .int .i64 (headr t)] w fun e w' => ∃ (t' : List Bn) (s' : St), e = .returned (.tuple #[.int .i64 (headr t'), .int .i64 (x.1 : Int)]) ∧ Aft F w0 w' pa pm s' ∧ Inv1 s' t' u (popL L) M x.1 ∧ s'.most = s.most ∧ s.steps ≤ s'.steps ∧ s'.steps ≤ s.steps + (500 + 400 * bts L.length) ∧ s'.steps ≤ s.steps + 900 := by
  have hne : L ≠ [] := fun e => by subst e; simp at hxx
  have hb := bts_pos (List.length_pos_iff.2 hne)
  have hlen := h.a.len
  refine (bpopT t (fun e => hne (h.a.none.1 e)) h.a.gd (by show (its t).length ≤ _; omega) h.ok he.is (by omega)).mono ?_
  rintro e w1 ⟨b, vs, s', rfl, lo, r, a1, st1, st2⟩
  obtain ⟨y, hy, hyi⟩ := least_item h.a lo
  rw [hxx] at hy
  injection hy with hy
  subst hy
  have I := pop_inv h r (split_at hxx).1 hyi
  exact ⟨vs, s', by rw [hyi], he.on a1, I, r.most, st1, by omega, by omega⟩
/-- Push, where there is room -/
theorem pushC (h : Inv1 s t u L M i) (hl : L.length ≤ 1000) (hx : 0 ≤ nextS s) (hs : s.steps ≤ 95000000) (he : Aft F w0 w pa pm s) :
    Calls Tryz.prog 17 #[.pointer (some ⟨pa, 0, none⟩), .int .i64 (headr t), .int .i64 (i : Int)] w fun e w' => ∃ (t' : List Bn) (s' : St), e = .returned (.tuple #[.int .i64 (headr t'), .bool true]) ∧ Aft F w0 w' pa pm s' ∧ Inv s' t' u (L ++ [(i, hasS s i 7, hasS s i 8)]) M ∧ s'.most = s.most ∧ s.steps ≤ s'.steps ∧ s'.steps ≤ s.steps + 500 := by
  have hlen := h.a.len
  refine (bpushT t i h.a.gd h.live (cell_neg (j := 9) h.live (by decide) h.free) h.out.1 (by show (its t).length ≤ _; omega) hx h.ok he.is (by omega)).mono ?_
  rintro e w1 ⟨vs, n, k, s', rfl, hn, hk, l1, a1, st1, st2⟩
  exact ⟨vs, s', rfl, he.on a1, push_inv h hx hn l1, by rw [l1.sm.most, puB_most]; rfl, st1, by omega⟩
/-- Push, where there is none -/
theorem pushC_no (h : Inv1 s t u L M i) (hx : ¬ 0 ≤ nextS s) (hs : s.steps ≤ 95000000) (he : Aft F w0 w pa pm s) :
    Calls Tryz.prog 17 #[.pointer (some ⟨pa, 0, none⟩), .int .i64 (headr t), .int .i64 (i : Int)] w fun e w' => ∃ s' : St, e = .returned (.tuple #[.int .i64 (headr t), .bool false]) ∧ Aft F w0 w' pa pm s' ∧ Inv1 s' t u L M i ∧ s'.most = s.most ∧ s.steps ≤ s'.steps ∧ s'.steps ≤ s.steps + 500 := by
  refine (bpushT_no t i h.a.gd h.live (cell_neg (j := 9) h.live (by decide) h.free) hx h.ok he.is (by omega)).mono ?_
  rintro e w1 ⟨k, rfl, hk, a1⟩
  have hx' : ¬ 0 ≤ nextS (tk (tk s k) 1) := hx
  have e1 := take_full hx'
  exact ⟨_, rfl, he.on a1, ((h.tk k).tk 1).full hx', by rw [e1]; rfl, by rw [e1]; show s.steps ≤ s.steps + k + 1 + 1; omega, by rw [e1]; show s.steps + k + 1 + 1 ≤ _; omega⟩
set_option maxHeartbeats 1000000 in
/-- Fall, of an item whose Key was lowered -/
theorem fallC (h : Inv s t u L M) (hL : L = l1 ++ x :: l2) (key : Int) (hk : key ≤ x.2.1) (he : Ex F w0 w pa pm (lowS s (x.1 : Int) key)) (hs : s.steps ≤ 95000000) :
    Calls Tryz.prog 27 #[.pointer (some ⟨pa, 0, none⟩), .int .i64 (headr t), .int .i64 (x.1 : Int)] w fun e w' => ∃ (t' : List Bn) (s' : St), e = .returned (.int .i64 (headr t')) ∧ Ex F w0 w' pa pm s' ∧ Inv s' t' u (l1 ++ l2 ++ [(x.1, key, x.2.2)]) M ∧ s'.most = s.most ∧ s.steps + 2 ≤ s'.steps ∧ s'.steps ≤ s.steps + 2 + 300 := by
  obtain ⟨_, e2, e3, ok1, b, y, U, f1, f2, f3, f4, f5, f6, f7, f8⟩ := fall_inv h hL key hk
  have R := hid (riseT b x.1 y U f1 f2 f3 f4 f5 f6 f7 ok1 he.is (by omega))
  have F8 := hid f8
  have HE := hid he
  have E2 := hid e2
  have E3 := hid e3
  clear f1 f2 f3 f4 f5 f6 f7 f8 he e2 e3 ok1
  generalize headr t = r0 at *
  go_enter Tryz.func27, Tryz.ntmps27
  go_wp2_with fail
  refine R.out.mono ?_
  rintro e w1 ⟨rfl, b', s', k, lv, gb, e1, st1, st2⟩
  obtain ⟨t', ht', hi⟩ := F8.out b' s' k lv gb
  have HI := hid hi
  have HT := hid ht'
  have MO := hid lv.sm.most
  have X1 := hid (HE.out.on e1)
  have S1 := hid (And.intro st1 st2)
  clear lv gb e1 st1 st2 hi ht' R F8
  go_wp2
  go_ret
  exact ⟨t', s', by rw [HT.out]; rfl, X1.out, HI.out, MO.out.trans E3.out, by have := S1.out.1; have := E2.out; omega, by have := S1.out.2; have := E2.out; omega⟩
set_option maxHeartbeats 1000000 in
/-- Cut -/
theorem cutC (h : Inv s t u L M) (hl : L.length ≤ 1000) (hL : L = l1 ++ x :: l2) (he : Aft F w0 w pa pm s) (hs : s.steps ≤ 95000000) :
    Calls Tryz.prog 32 #[.pointer (some ⟨pa, 0, none⟩), .int .i64 (headr t), .int .i64 (x.1 : Int)] w fun e w' => ∃ (t' : List Bn) (s' : St), e = .returned (.int .i64 (headr t')) ∧ Aft F w0 w' pa pm s' ∧ Inv1 s' t' u (l1 ++ l2) M x.1 ∧ s'.most = s.most ∧ s.steps ≤ s'.steps ∧ s'.steps ≤ s.steps + (500 + 400 * bts L.length) ∧ s'.steps ≤ s.steps + 900 := by
  have hb := bts_pos (n := L.length) (by rw [hL]; simp; omega)
  have SMALL := h.a.gd.small (by show (its t).length ≤ _; have := h.a.len; omega)
  have hl11 : t.length ≤ 11 := SMALL.2
  have RK9 := hid SMALL.1
  clear SMALL
  have T := hid (treesT t (fun b hb => (h.a.gd.vb b hb).1) h.a.gd.ch (tops_nodup h.a.gd.nd) h.ok (by omega) (fun b hb => by have := h.a.gd.rk b hb; omega) he.is (by omega))
  have CI := hid (fun q => cut_inv h hL q)
  have HE := hid he
  have OK := hid h.ok
  have HFL := hid he.is.lt
  clear h he hL
  generalize headr t = r0 at *
  go_enter Tryz.func32, Tryz.ntmps32
  go_wp2_with fail
  refine T.out.mono ?_
  rintro e w1 ⟨v1, k1, rfl, o1, hk1, a1, q1⟩
  obtain ⟨b, y, U, c1, c2, c3, c4, c5, c6, c7, c8⟩ := CI.out k1
  have LF := hid (fun a n c (e : v1 = .slice (some a) n c) => (show ¬ Grow F w0 w a.block from fun hF => by
    subst e
    have := (World.ownsRow.lt o1 a.block rfl).1
    have := HFL.out _ hF
    omega))
  have LT := hid (liftT t v1 b x.1 y U c1 (by omega) o1.lst LF.out c2 c3 c4 c5 c6 c7 (Sm.tk OK.out k1).ok a1 (by show s.steps + k1 ≤ _; omega))
  have O1 := hid o1
  have Q1 := hid q1
  have C8 := hid c8
  have B9 := hid (RK9.out b c1)
  clear c1 c2 c3 c4 c5 c6 c7 c8 o1 a1 q1 T CI
  go_wp2_with fail
  refine LT.out.mono ?_
  rintro e w2 ⟨rfl, b', s2, k, lv, eb, e2, st1, st2⟩
  obtain ⟨t2, d0, d1, d2, d3, d4, d5, d6, d7, d8, d9⟩ := C8.out b' s2 k lv eb
  have O2 := hid (own_kept O1.out e2.kept (fun i hi hF => by have := (World.ownsRow.lt O1.out i hi).1; have := HFL.out i hF; omega))
  have Q2 := hid (Q1.out.trans' e2.kept)
  have RM := hid (removeT t2 b' v1 d1 d2 d3 d4 d5 d6 d7 (by show (its t2).length ≤ _; omega) lv.sm.ok (by rw [d0]; exact Own.lst O2.out) LF.out e2.is (by have : s2.steps ≤ s.steps + k1 + 130 := st2; omega))
  rw [lv.n] at RM
  have D9 := hid d9
  have MO := hid (show s2.most = s.most from lv.sm.most)
  have hb9 : b'.rk ≤ 9 := by rw [lv.rk]; exact B9.out
  have ht2 : t2.length ≤ 11 := by have := congrArg List.length d0; simp only [nds, List.length_map] at this; omega
  have S2 := hid (show s.steps + k1 ≤ s2.steps ∧ s2.steps ≤ s.steps + k1 + 130 from ⟨st1, st2⟩)
  have ne1 : ((b.n : Int) == -1) = false := by simp
  clear d0 d1 d2 d3 d4 d5 d6 d7 d8 d9 lv eb e2 st1 st2 LT C8 O1 Q1
  go_wp2_with fail
  refine RM.out.mono ?_
  rintro e w3 ⟨vs, s', rfl, r, a3, st3, st4⟩
  have A3 := hid (HE.out.on (Aft.since Q2.out HFL.out a3))
  have I3 := hid (D9.out vs s' r)
  have M3 := hid (r.most.trans MO.out)
  have S3 := hid (And.intro st3 st4)
  clear r a3 st3 st4 RM D9
  go_wp2
  go_ret
  exact ⟨vs, s', rfl, A3.out, I3.out, M3.out, by have := S2.out.1; have := S3.out.1; omega, by have := S2.out.2; have := S3.out.2; omega, by have := S2.out.2; have := S3.out.2; omega⟩
end
end Go.Proofs.YteibfnclillnnabGreat
