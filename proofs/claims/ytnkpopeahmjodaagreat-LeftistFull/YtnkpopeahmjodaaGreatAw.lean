/- The arena as one call's own, from a base: Aft; item's calls over any arena. -/
import Derived.Test.YtnkpopeahmjodaaGreatHd
namespace Go.Proofs.YtnkpopeahmjodaaGreat
open Go.ChangeShapes Go.WideShapes Go.ChangeAt Go.RowKit

/-- since w0, where the arena had the blocks F, nothing else has turned; now it is s -/
structure Aft (F : Nat → Prop) (w0 w : World) (pa pm : Nat) (s : St) : Prop where
  is : IsA w (Grow F w0 w) pa pm s
  kept : Kept F w0 w
  lt : ∀ k, F k → k < w0.heap.size

theorem Kept.any {F : Nat → Prop} {a b : World} (h : Kept (fun _ => False) a b) : Kept F a b := h.mono fun _ e => e.elim

/-- k more steps -/
def tk (s : St) (k : Nat) : St := ⟨s.most, s.pl, s.back, s.steps + k⟩

section
variable {F : Nat → Prop} {w0 w w' : World} {pa pm : Nat} {s s' : St}
theorem Aft.start (h : IsA w F pa pm s) : Aft F w w pa pm s := ⟨h.widen (fun _ e => Or.inl e) (fun k e => e.elim (h.lt k) fun q => by omega), Kept.refl _ _, h.lt⟩
theorem Grow.up {w1 w2 : World} (hs : w1.heap.size ≤ w2.heap.size) : ∀ k, Grow F w0 w1 k → Grow F w0 w2 k := fun k h => h.imp id fun q => ⟨q.1, by omega⟩
theorem Aft.stay (h : Aft F w0 w pa pm s) (hi : IsA w' (Grow F w0 w) pa pm s') (hk : Kept (Grow F w0 w) w w') : Aft F w0 w' pa pm s' :=
  ⟨hi.widen (Grow.up hk.size) (Grow.lt h.lt (Nat.le_trans h.kept.size hk.size)), h.kept.trans hk, h.lt⟩
theorem Aft.call (h : Aft F w0 w pa pm s) (hi : IsA w' (Grow (Grow F w0 w) w w') pa pm s') (hk : Kept (Grow F w0 w) w w') : Aft F w0 w' pa pm s' :=
  ⟨hi.widen (fun k q => q.elim (Grow.up hk.size k) fun q => Or.inr ⟨Nat.le_trans h.kept.size q.1, q.2⟩) (Grow.lt h.lt (Nat.le_trans h.kept.size hk.size)), h.kept.trans hk, h.lt⟩
theorem Aft.plain (h : Aft F w0 w pa pm s) (hk : Kept (fun _ => False) w w') : Aft F w0 w' pa pm s :=
  h.stay (h.is.kept hk fun _ _ e => e) hk.any
theorem Aft.drewN (h : Aft F w0 w pa pm s) (n : Nat) : Aft F w0 (w.drewN n) pa pm s := h.plain ((Kept.refl _ _).drewN n)
theorem Aft.drew (h : Aft F w0 w pa pm s) : Aft F w0 w.drew pa pm s := h.plain ((Kept.refl _ _).drew)
/-- blocks that are none of the arena's are written -/
theorem Aft.other {G : Nat → Prop} (h : Aft F w0 w pa pm s) (hk : Kept G w w') (hd : ∀ k, Grow F w0 w k → ¬ G k) (hn : ∀ k, G k → w0.heap.size ≤ k) : Aft F w0 w' pa pm s :=
  ⟨(h.is.kept hk hd).widen (Grow.up hk.size) (Grow.lt h.lt (Nat.le_trans h.kept.size hk.size)),
   ⟨hk.os.trans h.kept.os, hk.tape.trans h.kept.tape, hk.output.trans h.kept.output, Nat.le_trans h.kept.size hk.size, fun k hk' hn' => (hk.block k (Nat.lt_of_lt_of_le hk' h.kept.size) fun e => by have := hn k e; omega).trans (h.kept.block k hk' hn')⟩, h.lt⟩

theorem takeT (h : Aft F w0 w pa pm s) (hs : s.steps ≤ 100000000) : Calls Tryz.prog 52 #[.pointer (some ⟨pa, 0, none⟩)] w fun e w' => e = .returned (.tuple #[.int .i64 (nextS s), .bool (decide (0 ≤ nextS s))]) ∧ Aft F w0 w' pa pm (takeS s) :=
  (takeA pa pm s _ w h.is hs).mono fun _ _ ⟨h1, h2, h3⟩ => ⟨h1, h.call h2 h3⟩
theorem giveT (c : Int) (h : Aft F w0 w pa pm s) (hs : s.steps ≤ 100000000) : Calls Tryz.prog 25 #[.pointer (some ⟨pa, 0, none⟩), .int .i64 c] w fun e w' => e = .returned (.bool (liveS s c)) ∧ Aft F w0 w' pa pm (giveS s c) :=
  (giveA pa pm s _ c w h.is hs).mono fun _ _ ⟨h1, h2, h3⟩ => ⟨h1, h.call h2 h3⟩
end

/-- the same, where the arena's blocks are F still -/
structure Ex (F : Nat → Prop) (w0 w : World) (pa pm : Nat) (s : St) : Prop where
  is : IsA w F pa pm s
  kept : Kept F w0 w

section
variable {F : Nat → Prop} {w0 w w' : World} {pa pm : Nat} {s s' : St}
theorem Ex.start (h : IsA w F pa pm s) : Ex F w w pa pm s := ⟨h, Kept.refl _ _⟩
theorem Ex.stay (h : Ex F w0 w pa pm s) (hi : IsA w' F pa pm s') (hk : Kept F w w') : Ex F w0 w' pa pm s' := ⟨hi, h.kept.trans' hk⟩
theorem Ex.plain (h : Ex F w0 w pa pm s) (hk : Kept (fun _ => False) w w') : Ex F w0 w' pa pm s := ⟨h.is.kept hk fun _ _ e => e, h.kept.trans' hk.any⟩
theorem Ex.drewN (h : Ex F w0 w pa pm s) (n : Nat) : Ex F w0 (w.drewN n) pa pm s := h.plain ((Kept.refl _ _).drewN n)
theorem Ex.drew (h : Ex F w0 w pa pm s) : Ex F w0 w.drew pa pm s := h.plain ((Kept.refl _ _).drew)
theorem Ex.other {G : Nat → Prop} (h : Ex F w0 w pa pm s) (hk : Kept G w w') (hd : ∀ k, F k → ¬ G k) (hn : ∀ k, G k → w0.heap.size ≤ k) : Ex F w0 w' pa pm s :=
  ⟨h.is.kept hk hd, ⟨hk.os.trans h.kept.os, hk.tape.trans h.kept.tape, hk.output.trans h.kept.output, Nat.le_trans h.kept.size hk.size, fun k hk' hn' => (hk.block k (Nat.lt_of_lt_of_le hk' h.kept.size) fun e => by have := hn k e; omega).trans (h.kept.block k hk' hn')⟩⟩
theorem Aft.ex (h : Aft F w0 w pa pm s) : Ex (Grow F w0 w) w w pa pm s := ⟨h.is, Kept.refl _ _⟩
theorem Aft.back (h : Aft F w0 w pa pm s) (e : Ex (Grow F w0 w) w w' pa pm s') : Aft F w0 w' pa pm s' := h.stay e.is e.kept
theorem Ex.aft (h : Ex F w0 w pa pm s) (hl : ∀ k, F k → k < w0.heap.size) : Aft F w0 w pa pm s := ⟨h.is.widen (fun _ e => Or.inl e) (Grow.lt hl h.kept.size), h.kept, hl⟩

theorem getT (c f : Int) (h : Ex F w0 w pa pm s) (hs : s.steps ≤ 100000000) : Calls Tryz.prog 57 #[.pointer (some ⟨pa, 0, none⟩), .int .i64 c, .int .i64 f] w fun e w' => e = .returned (.int .i64 (getS s c f)) ∧ Ex F w0 w' pa pm (tk s 1) :=
  (getA pa pm s _ c f w h.is hs).mono fun _ _ ⟨h1, h2, h3⟩ => ⟨h1, h.stay h2 h3⟩
theorem cellT (c f : Int) (h : Ex F w0 w pa pm s) (hs : s.steps ≤ 100000000) : Calls Tryz.prog 44 #[.pointer (some ⟨pa, 0, none⟩), .int .i64 c, .int .i64 f] w fun e w' => e = .returned (.int .i64 (cellS s c f)) ∧ Ex F w0 w' pa pm (tk s 1) :=
  (cellA pa pm s _ c f w h.is hs).mono fun _ _ ⟨h1, h2, h3⟩ => ⟨h1, h.stay h2 h3⟩
theorem setT (c f v : Int) (h : Ex F w0 w pa pm s) (hs : s.steps ≤ 100000000) : Calls Tryz.prog 53 #[.pointer (some ⟨pa, 0, none⟩), .int .i64 c, .int .i64 f, .int .i64 v] w fun e w' => e = .returned (.bool (mayS s c f)) ∧ Ex F w0 w' pa pm (setS s c f v) :=
  (setA pa pm s _ c f v w h.is hs).mono fun _ _ ⟨h1, h2, h3⟩ => ⟨h1, h.stay h2 h3⟩
theorem liveT (c : Int) (h : Ex F w0 w pa pm s) : Calls Tryz.prog 46 #[.pointer (some ⟨pa, 0, none⟩), .int .i64 c] w fun e w' => e = .returned (.bool (liveS s c)) ∧ w' = w :=
  liveA pa pm s _ c w h.is
end

/-- is the entry (a1, a2) before (b1, b2)? -/
def bef (a1 a2 b1 b2 : Int) : Bool := decide (a1 < b1 ∨ a1 = b1 ∧ a2 < b2)
/-- how the entries (a1, a2) and (b1, b2) compare -/
def cmpS (a1 a2 b1 b2 : Int) : Int := if bef a1 a2 b1 b2 = true then -1 else if bef b1 b2 a1 a2 = true then 1 else 0

set_option maxHeartbeats 400000 in
theorem before_any (a1 a2 b1 b2 : Int) (w : World) :
    Calls Tryz.prog 99 #[.agg #[.int .i64 a1, .int .i64 a2], .agg #[.int .i64 b1, .int .i64 b2]] w fun e w' =>
      e = .returned (.bool (bef a1 a2 b1 b2)) ∧ ∃ c1 c2 : Array Value, w' = (w.alloc (.cells c1 44)).alloc (.cells c2 44) := by
  by_cases p : a1 = b1
  · subst p
    have hne : (a1 != a1) = false := by simp
    go_enter Tryz.func99, Tryz.ntmps99
    go_wp2
    go_ret
    exact ⟨ret_bool (by simp [bef]), _, _, rfl⟩
  · have hne : (a1 != b1) = true := by simp [p]
    go_enter Tryz.func99, Tryz.ntmps99
    go_wp2
    go_ret
    exact ⟨ret_bool (by simp [bef, p]), _, _, rfl⟩

set_option maxHeartbeats 400000 in
theorem refBefore_any (a1 a2 b1 b2 : Int) (w : World) :
    Calls Tryz.prog 67 #[.agg #[.int .i64 a1, .int .i64 a2], .agg #[.int .i64 b1, .int .i64 b2]] w fun e w' =>
      e = .returned (.bool (bef a1 a2 b1 b2)) ∧ ∃ c1 c2 : Array Value, w' = (w.alloc (.cells c1 44)).alloc (.cells c2 44) := by
  by_cases p : a1 < b1
  · go_enter Tryz.func67, Tryz.ntmps67
    go_wp2
    go_ret
    exact ⟨ret_bool (by simp [bef, p]), _, _, rfl⟩
  · by_cases q : a1 = b1
    · subst q
      by_cases r : a2 < b2
      · go_enter Tryz.func67, Tryz.ntmps67
        go_wp2
        go_ret
        exact ⟨ret_bool (by simp [bef, r]), _, _, rfl⟩
      · go_enter Tryz.func67, Tryz.ntmps67
        go_wp2
        go_ret
        exact ⟨ret_bool (by simp [bef, r]), _, _, rfl⟩
    · have hne : (a1 == b1) = false := by simp [q]
      go_enter Tryz.func67, Tryz.ntmps67
      go_wp2
      go_ret
      exact ⟨ret_bool (by simp [bef, p, q]), _, _, rfl⟩

theorem plain2 (w : World) (o1 o2 : Obj) : Kept (fun _ => False) w ((w.alloc o1).alloc o2) := ((Kept.refl _ _).alloc _).alloc _
set_option maxHeartbeats 400000 in
theorem compare_any (a1 a2 b1 b2 : Int) (w : World) :
    Calls Tryz.prog 87 #[.agg #[.int .i64 a1, .int .i64 a2], .agg #[.int .i64 b1, .int .i64 b2]] w fun e w' =>
      e = .returned (.int .i64 (cmpS a1 a2 b1 b2)) ∧ Kept (fun _ => False) w w' := by
  have h1 := fun w => before_any a1 a2 b1 b2 w
  have h2 := fun w => before_any b1 b2 a1 a2 w
  unfold cmpS
  generalize bef a1 a2 b1 b2 = r at h1 ⊢
  generalize bef b1 b2 a1 a2 = s at h2 ⊢
  have H1 : Hid _ := h1
  have H2 : Hid _ := h2
  clear h1 h2
  have hz : w.heap.size < w.heap.size + 1 + 1 + 1 := by omega
  have hz' : w.heap.size + 1 < w.heap.size + 1 + 1 + 1 := by omega
  cases r
  · cases s
    all_goals
      go_enter Tryz.func87, Tryz.ntmps87
      go_wp2_with fail
      refine (H1.out _).mono ?_
      rintro e w' ⟨rfl, c1, c2, rfl⟩
      go_wp2_with fail
      refine (H2.out _).mono ?_
      rintro e w' ⟨rfl, c3, c4, rfl⟩
      go_wp2
      go_ret
      exact ⟨ret_int (by simp), (((((Kept.refl _ _).alloc _).alloc _).alloc _).alloc _).alloc _ |>.alloc _⟩
  · go_enter Tryz.func87, Tryz.ntmps87
    go_wp2_with fail
    refine (H1.out _).mono ?_
    rintro e w' ⟨rfl, c1, c2, rfl⟩
    go_wp2
    go_ret
    exact ⟨ret_int (by simp), ((((Kept.refl _ _).alloc _).alloc _).alloc _).alloc _⟩

theorem cmp_lt {a1 a2 b1 b2 : Int} (h : bef a1 a2 b1 b2 = true) : cmpS a1 a2 b1 b2 = -1 := by unfold cmpS; rw [if_pos h]
theorem cmp_gt {a1 a2 b1 b2 : Int} (h : bef a1 a2 b1 b2 = false) (h' : bef b1 b2 a1 a2 = true) : cmpS a1 a2 b1 b2 = 1 := by unfold cmpS; rw [if_neg (by simp [h]), if_pos h']
theorem cmp_eq {a1 a2 b1 b2 : Int} (h : bef a1 a2 b1 b2 = false) (h' : bef b1 b2 a1 a2 = false) : cmpS a1 a2 b1 b2 = 0 := by unfold cmpS; rw [if_neg (by simp [h]), if_neg (by simp [h'])]

/-- is the item c before d? -/
def befS (s : St) (c d : Int) : Bool := bef (getS s c 7) (getS s c 8) (getS s d 7) (getS s d 8) || (decide (getS s c 7 = getS s d 7 ∧ getS s c 8 = getS s d 8) && decide (c < d))

section
variable {F : Nat → Prop} {w0 w w' : World} {pa pm : Nat} {s s' : St}

set_option maxHeartbeats 1000000 in
theorem entryT (c : Int) (h : Ex F w0 w pa pm s) (hs : s.steps ≤ 99999990) :
    Calls Tryz.prog 81 #[.pointer (some ⟨pa, 0, none⟩), .int .i64 c] w fun e w' => e = .returned (.agg #[.int .i64 (getS s c 7), .int .i64 (getS s c 8)]) ∧ Ex F w0 w' pa pm (tk s 2) := by
  obtain ⟨b, hb⟩ : ∃ b, b = w.heap.size := ⟨_, rfl⟩
  have HW := hid h.kept
  have HA := hid ((Ex.start h.is).plain ((Kept.refl _ _).alloc (.cells #[.int .i64 0, .int .i64 0] 44)))
  have hbF : ¬ F b := fun e => by have := h.is.lt b e; omega
  have BA := hid (show (w.alloc (.cells #[.int .i64 0, .int .i64 0] 44)).heap[b]? = some (.cells #[.int .i64 0, .int .i64 0] 44) by rw [hb]; exact heap_alloc_new w (.cells #[.int .i64 0, .int .i64 0] 44))
  have BS := hid (show b < (w.alloc (.cells #[.int .i64 0, .int .i64 0] 44)).heap.size by rw [hb]; simp)
  have HB := hid hb
  have hbw : w.heap.size = b := hb.symm
  have BF := hid hbF
  clear hb hbF h
  go_enter Tryz.func81, Tryz.ntmps81
  go_wp2_with fail
  refine (getA pa pm s F c 7 _ HA.out.is (by omega)).mono ?_
  rintro e w1 ⟨rfl, h1, k1⟩
  have H1 := hid (HA.out.stay h1 k1)
  have B1 := hid ((k1.block b BS.out BF.out).trans BA.out)
  have S1 := hid (Nat.lt_of_lt_of_le BS.out k1.size)
  clear h1 k1 HA BA BS
  go_wp2_with fail
  refine (getA pa pm (tick s) F c 8 _ H1.out.is (by show s.steps + 1 ≤ _; omega)).mono ?_
  rintro e w2 ⟨rfl, h2, k2⟩
  have H2 := hid (H1.out.stay h2 k2)
  have hb2 := (k2.block b S1.out BF.out).trans B1.out
  have hs2 : b < w2.heap.size := Nat.lt_of_lt_of_le S1.out k2.size
  have B2 := hid hb2
  have c0 : w2.cell? ⟨b, 0, none⟩ = some (.int .i64 0) := by simp [World.cell?, hb2]
  have c1 : w2.cell? ⟨b, 1, none⟩ = some (.int .i64 0) := by simp [World.cell?, hb2]
  have f0 : w2.frozen? ⟨b, 0, none⟩ = false := blk_free hb2
  have f1 : w2.frozen? ⟨b, 1, none⟩ = false := blk_free hb2
  rw [get_tick]
  obtain ⟨x, hx⟩ : ∃ x, x = getS s c 7 := ⟨_, rfl⟩
  obtain ⟨y, hy⟩ : ∃ y, y = getS s c 8 := ⟨_, rfl⟩
  have HX := hid hx
  have HY := hid hy
  rw [← hx, ← hy]
  clear h2 k2 H1 B1 S1 hb2 hbw hx hy
  go_wp2
  have b1 := blk_set (j := 0) (u := .int .i64 x) B2.out
  have b2 := blk_set (j := 1) (u := .int .i64 y) b1
  refine bodyPost_ret (v := .agg #[.int .i64 x, .int .i64 y]) (results_cell_row rfl _ _ b 44 #[.int .i64 x, .int .i64 y] _ _ rfl (by simpa using b2) Tryz.underlying44 rfl (by kernel_rfl)) rfl ?_
  have kk : Kept (fun k => k = b) w2 ((w2.setCell ⟨b, 0, none⟩ (.int .i64 x)).setCell ⟨b, 1, none⟩ (.int .i64 y)) := ((Kept.refl (fun k => k = b) w2).setCell (p := ⟨b, 0, none⟩) (Or.inl rfl) _).setCell (p := ⟨b, 1, none⟩) (Or.inl rfl) _
  have q := H2.out.other kk (fun k hF hk => BF.out (hk ▸ hF)) (fun k hk => by rw [hk, HB.out]; exact Nat.le_refl _)
  rw [← HX.out, ← HY.out]
  exact ⟨rfl, ⟨q.is, HW.out.trans' q.kept⟩⟩

set_option maxHeartbeats 1000000 in
theorem beforeT (c d : Int) (h : Ex F w0 w pa pm s) (hs : s.steps ≤ 99999900) :
    Calls Tryz.prog 76 #[.pointer (some ⟨pa, 0, none⟩), .int .i64 c, .int .i64 d] w fun e w' => e = .returned (.bool (befS s c d)) ∧ Ex F w0 w' pa pm (tk s 4) := by
  have HH := hid h
  clear h
  have C := hid (fun w => compare_any (getS s c 7) (getS s c 8) (getS s d 7) (getS s d 8) w)
  obtain ⟨r, hr⟩ : ∃ r, cmpS (getS s c 7) (getS s c 8) (getS s d 7) (getS s d 8) = r := ⟨_, rfl⟩
  rw [hr] at C
  have HR := hid hr
  clear hr
  go_enter Tryz.func76, Tryz.ntmps76
  go_wp2_with fail
  refine (entryT c HH.out (by omega)).mono ?_
  rintro e w1 ⟨rfl, h1⟩
  have H1 := hid h1
  clear h1 HH
  go_wp2_with fail
  refine (entryT d H1.out (by show s.steps + 2 ≤ _; omega)).mono ?_
  rintro e w2 ⟨rfl, h2⟩
  have H2 := hid h2
  clear h2 H1
  go_wp2_with fail
  refine (C.out _).mono ?_
  rintro e w3 ⟨rfl, k3⟩
  have H3 := hid (H2.out.plain k3)
  clear k3 H2 C
  by_cases q1 : bef (getS s c 7) (getS s c 8) (getS s d 7) (getS s d 8) = true
  · obtain rfl : r = -1 := HR.out.symm.trans (cmp_lt q1)
    have Q := hid (show befS s c d = true by unfold befS; rw [q1]; rfl)
    clear q1
    go_wp2
    go_ret
    exact ⟨ret_bool Q.out.symm, H3.out⟩
  · replace q1 : bef (getS s c 7) (getS s c 8) (getS s d 7) (getS s d 8) = false := by simpa using q1
    by_cases q2 : bef (getS s d 7) (getS s d 8) (getS s c 7) (getS s c 8) = true
    · obtain rfl : r = 1 := HR.out.symm.trans (cmp_gt q1 q2)
      have Q := hid (show befS s c d = false by
        unfold befS; rw [q1]
        simp [bef] at q1 q2 ⊢; omega)
      clear q1 q2
      go_wp2
      go_ret
      exact ⟨ret_bool Q.out.symm, H3.out⟩
    · replace q2 : bef (getS s d 7) (getS s d 8) (getS s c 7) (getS s c 8) = false := by simpa using q2
      obtain rfl : r = 0 := HR.out.symm.trans (cmp_eq q1 q2)
      have Q := hid (show befS s c d = decide (c < d) by
        unfold befS; rw [q1]
        simp [bef] at q1 q2
        rw [show decide (getS s c 7 = getS s d 7 ∧ getS s c 8 = getS s d 8) = true by simp; omega]
        simp)
      clear q1 q2
      go_wp2
      go_ret
      exact ⟨ret_bool Q.out.symm, H3.out⟩

theorem nodeT (c : Int) (h : Ex F w0 w pa pm s) (hs : s.steps ≤ 99999990) :
    Calls Tryz.prog 24 #[.pointer (some ⟨pa, 0, none⟩), .int .i64 c] w fun e w' => e = .returned (.int .i64 (cellS s c 9)) ∧ Ex F w0 w' pa pm (tk s 1) := by
  have C := hid (cellT c 9 h (by omega))
  clear h
  go_enter Tryz.func24, Tryz.ntmps24
  go_wp2_with fail
  refine C.out.mono ?_
  rintro e w1 ⟨rfl, h1⟩
  have H1 := hid h1
  clear h1
  go_wp2
  go_ret
  exact ⟨rfl, H1.out⟩

/-- Lower: what is told, what is then -/
def lowB (s : St) (c key : Int) : Bool := if getS s c 7 < key then false else mayS s c 7
def lowS (s : St) (c key : Int) : St := if getS s c 7 < key then tk s 1 else setS (tk s 1) c 7 key
set_option maxHeartbeats 1000000 in
theorem lowerT (c key : Int) (h : Ex F w0 w pa pm s) (hs : s.steps ≤ 99999990) :
    Calls Tryz.prog 38 #[.pointer (some ⟨pa, 0, none⟩), .int .i64 c, .int .i64 key] w fun e w' => e = .returned (.bool (lowB s c key)) ∧ Ex F w0 w' pa pm (lowS s c key) := by
  have G := hid (getT c 7 h (by omega))
  clear h
  by_cases q : getS s c 7 < key
  · have Q1 := hid (show lowB s c key = false by unfold lowB; rw [if_pos q])
    have Q2 := hid (show lowS s c key = tk s 1 by unfold lowS; rw [if_pos q])
    generalize getS s c 7 = x at q G
    go_enter Tryz.func38, Tryz.ntmps38
    go_wp2_with fail
    refine G.out.mono ?_
    rintro e w1 ⟨rfl, h1⟩
    have H1 := hid h1
    clear h1
    go_wp2
    go_ret
    rw [Q1.out, Q2.out]
    exact ⟨rfl, H1.out⟩
  · have Q1 := hid (show lowB s c key = mayS s c 7 by unfold lowB; rw [if_neg q])
    have Q2 := hid (show lowS s c key = setS (tk s 1) c 7 key by unfold lowS; rw [if_neg q])
    generalize getS s c 7 = x at q G
    have q' : decide (x < key) = false := by simp; omega
    clear q
    go_enter Tryz.func38, Tryz.ntmps38
    go_wp2_with fail
    refine G.out.mono ?_
    rintro e w1 ⟨rfl, h1⟩
    have H1 := hid h1
    clear h1
    go_wp2_with fail
    refine (setT c 7 key H1.out (by show s.steps + 1 ≤ _; omega)).mono ?_
    rintro e w2 ⟨rfl, h2⟩
    have H2 := hid h2
    clear h2
    go_wp2
    go_ret
    rw [Q1.out, Q2.out]
    exact ⟨rfl, H2.out⟩

/-- an item is made -/
def newS (s : St) (key serial : Int) : St := if 0 ≤ nextS s then setS (setS (takeS s) (nextS s) 7 key) (nextS s) 8 serial else takeS s
theorem set_steps (s : St) (c f v : Int) : (setS s c f v).steps = s.steps + 1 := by unfold setS; split <;> rfl
theorem take_steps (s : St) : (takeS s).steps = s.steps + 1 := by unfold takeS; split; rfl; split <;> rfl
theorem give_steps (s : St) (c : Int) : (giveS s c).steps = s.steps + 1 := by unfold giveS; split <;> rfl
theorem next_neg {s : St} (h : ¬ 0 ≤ nextS s) : nextS s = -1 := by
  unfold nextS at h ⊢
  split at h
  · omega
  · split at h
    · rename_i q; rw [if_pos q]
    · omega
set_option maxHeartbeats 1000000 in
theorem newT (key serial : Int) (h : Aft F w0 w pa pm s) (hs : s.steps ≤ 99999990) :
    Calls Tryz.prog 32 #[.pointer (some ⟨pa, 0, none⟩), .int .i64 key, .int .i64 serial] w fun e w' => e = .returned (.tuple #[.int .i64 (nextS s), .bool (decide (0 ≤ nextS s))]) ∧ Aft F w0 w' pa pm (newS s key serial) := by
  have T := hid (takeT h (by omega))
  clear h
  by_cases q : 0 ≤ nextS s
  · have Q := hid (show newS s key serial = setS (setS (takeS s) (nextS s) 7 key) (nextS s) 8 serial by unfold newS; rw [if_pos q])
    have Q3 := hid (show decide (0 ≤ nextS s) = true by simp [q])
    rw [show decide (0 ≤ nextS s) = true by simp [q]] at T
    generalize nextS s = n at T Q Q3
    clear q
    go_enter Tryz.func32, Tryz.ntmps32
    go_wp2_with fail
    refine T.out.mono ?_
    rintro e w1 ⟨rfl, h1⟩
    have H1 := hid h1
    clear h1 T
    go_wp2_with fail
    refine (setT n 7 key H1.out.ex (by rw [take_steps]; omega)).mono ?_
    rintro e w2 ⟨rfl, h2⟩
    have H2 := hid (H1.out.back h2)
    clear h2 H1
    generalize mayS (takeS s) n 7 = m1
    go_wp2_with fail
    refine (setT n 8 serial H2.out.ex (by rw [set_steps, take_steps]; omega)).mono ?_
    rintro e w3 ⟨rfl, h3⟩
    have H3 := hid (H2.out.back h3)
    clear h3 H2
    generalize mayS (setS (takeS s) n 7 key) n 8 = m2
    go_wp2
    go_ret2
    rw [Q.out, Q3.out]
    exact ⟨rfl, H3.out⟩
  · have Q := hid (show newS s key serial = takeS s by unfold newS; rw [if_neg q])
    have Q3 := hid (show decide (0 ≤ nextS s) = false by simp; omega)
    rw [show decide (0 ≤ nextS s) = false by simp; omega, next_neg q] at T
    rw [next_neg q]
    clear q
    go_enter Tryz.func32, Tryz.ntmps32
    go_wp2_with fail
    refine T.out.mono ?_
    rintro e w1 ⟨rfl, h1⟩
    have H1 := hid h1
    clear h1 T
    go_wp2
    go_ret2
    rw [Q.out]
    exact ⟨rfl, H1.out⟩
end
end Go.Proofs.YtnkpopeahmjodaaGreat
