/- Several texts in one. -/
import Derived.Test.YthfdooigljkfiabGa
/- The arena as one call's own, from a base: Aft; item's calls over any arena. -/
namespace Go.Proofs.Ythfdooigljkfiab
open Go.ChangeShapes Go.WideShapes Go.ChangeAt Go.RowKit

/-- since w0, where the arena had the blocks F, nothing else has turned; now it is s -/
structure Aft (F : Nat → Prop) (w0 w : World) (pa pm : Nat) (s : St) : Prop where
  is : IsA w (Grow F w0 w) pa pm s
  kept : Kept F w0 w
  lt : ∀ k, F k → k < w0.heap.size

theorem Kept.any {F : Nat → Prop} {a b : World} (h : Kept (fun _ => False) a b) : Kept F a b := h.mono fun _ e => e.elim

/-- k more steps -/
def tk (s : St) (k : Nat) : St := ⟨s.most, s.pl, s.back, s.steps + k⟩

section
variable {F : Nat → Prop} {w0 w w' : World} {pa pm : Nat} {s s' : St}
theorem Aft.start (h : IsA w F pa pm s) : Aft F w w pa pm s := ⟨h.widen (fun _ e => Or.inl e) (fun k e => e.elim (h.lt k) fun q => by omega), Kept.refl _ _, h.lt⟩
theorem Grow.up {w1 w2 : World} (hs : w1.heap.size ≤ w2.heap.size) : ∀ k, Grow F w0 w1 k → Grow F w0 w2 k := fun k h => h.imp id fun q => ⟨q.1, by omega⟩
theorem Aft.stay (h : Aft F w0 w pa pm s) (hi : IsA w' (Grow F w0 w) pa pm s') (hk : Kept (Grow F w0 w) w w') : Aft F w0 w' pa pm s' :=
  ⟨hi.widen (Grow.up hk.size) (Grow.lt h.lt (Nat.le_trans h.kept.size hk.size)), h.kept.trans hk, h.lt⟩
theorem Aft.call (h : Aft F w0 w pa pm s) (hi : IsA w' (Grow (Grow F w0 w) w w') pa pm s') (hk : Kept (Grow F w0 w) w w') : Aft F w0 w' pa pm s' :=
  ⟨hi.widen (fun k q => q.elim (Grow.up hk.size k) fun q => Or.inr ⟨Nat.le_trans h.kept.size q.1, q.2⟩) (Grow.lt h.lt (Nat.le_trans h.kept.size hk.size)), h.kept.trans hk, h.lt⟩
theorem Aft.plain (h : Aft F w0 w pa pm s) (hk : Kept (fun _ => False) w w') : Aft F w0 w' pa pm s :=
  h.stay (h.is.kept hk fun _ _ e => e) hk.any
theorem Aft.drewN (h : Aft F w0 w pa pm s) (n : Nat) : Aft F w0 (w.drewN n) pa pm s := h.plain ((Kept.refl _ _).drewN n)
theorem Aft.drew (h : Aft F w0 w pa pm s) : Aft F w0 w.drew pa pm s := h.plain ((Kept.refl _ _).drew)
/-- blocks that are none of the arena's are written -/
theorem Aft.other {G : Nat → Prop} (h : Aft F w0 w pa pm s) (hk : Kept G w w') (hd : ∀ k, Grow F w0 w k → ¬ G k) (hn : ∀ k, G k → w0.heap.size ≤ k) : Aft F w0 w' pa pm s :=
  ⟨(h.is.kept hk hd).widen (Grow.up hk.size) (Grow.lt h.lt (Nat.le_trans h.kept.size hk.size)),
   ⟨hk.os.trans h.kept.os, hk.tape.trans h.kept.tape, hk.output.trans h.kept.output, Nat.le_trans h.kept.size hk.size, fun k hk' hn' => (hk.block k (Nat.lt_of_lt_of_le hk' h.kept.size) fun e => by have := hn k e; omega).trans (h.kept.block k hk' hn')⟩, h.lt⟩

theorem takeT (h : Aft F w0 w pa pm s) (hs : s.steps ≤ 100000000) : Calls Try.prog 38 #[.pointer (some ⟨pa, 0, none⟩)] w fun e w' => e = .returned (.tuple #[.int .i64 (nextS s), .bool (decide (0 ≤ nextS s))]) ∧ Aft F w0 w' pa pm (takeS s) :=
  (takeA pa pm s _ w h.is hs).mono fun _ _ ⟨h1, h2, h3⟩ => ⟨h1, h.call h2 h3⟩
theorem giveT (c : Int) (h : Aft F w0 w pa pm s) (hs : s.steps ≤ 100000000) : Calls Try.prog 22 #[.pointer (some ⟨pa, 0, none⟩), .int .i64 c] w fun e w' => e = .returned (.bool (liveS s c)) ∧ Aft F w0 w' pa pm (giveS s c) :=
  (giveA pa pm s _ c w h.is hs).mono fun _ _ ⟨h1, h2, h3⟩ => ⟨h1, h.call h2 h3⟩
end

/-- the same, where the arena's blocks are F still -/
structure Ex (F : Nat → Prop) (w0 w : World) (pa pm : Nat) (s : St) : Prop where
  is : IsA w F pa pm s
  kept : Kept F w0 w

section
variable {F : Nat → Prop} {w0 w w' : World} {pa pm : Nat} {s s' : St}
theorem Ex.start (h : IsA w F pa pm s) : Ex F w w pa pm s := ⟨h, Kept.refl _ _⟩
theorem Ex.stay (h : Ex F w0 w pa pm s) (hi : IsA w' F pa pm s') (hk : Kept F w w') : Ex F w0 w' pa pm s' := ⟨hi, h.kept.trans' hk⟩
theorem Ex.plain (h : Ex F w0 w pa pm s) (hk : Kept (fun _ => False) w w') : Ex F w0 w' pa pm s := ⟨h.is.kept hk fun _ _ e => e, h.kept.trans' hk.any⟩
theorem Ex.drewN (h : Ex F w0 w pa pm s) (n : Nat) : Ex F w0 (w.drewN n) pa pm s := h.plain ((Kept.refl _ _).drewN n)
theorem Ex.drew (h : Ex F w0 w pa pm s) : Ex F w0 w.drew pa pm s := h.plain ((Kept.refl _ _).drew)
theorem Ex.other {G : Nat → Prop} (h : Ex F w0 w pa pm s) (hk : Kept G w w') (hd : ∀ k, F k → ¬ G k) (hn : ∀ k, G k → w0.heap.size ≤ k) : Ex F w0 w' pa pm s :=
  ⟨h.is.kept hk hd, ⟨hk.os.trans h.kept.os, hk.tape.trans h.kept.tape, hk.output.trans h.kept.output, Nat.le_trans h.kept.size hk.size, fun k hk' hn' => (hk.block k (Nat.lt_of_lt_of_le hk' h.kept.size) fun e => by have := hn k e; omega).trans (h.kept.block k hk' hn')⟩⟩
theorem Aft.ex (h : Aft F w0 w pa pm s) : Ex (Grow F w0 w) w w pa pm s := ⟨h.is, Kept.refl _ _⟩
theorem Aft.back (h : Aft F w0 w pa pm s) (e : Ex (Grow F w0 w) w w' pa pm s') : Aft F w0 w' pa pm s' := h.stay e.is e.kept
theorem Ex.aft (h : Ex F w0 w pa pm s) (hl : ∀ k, F k → k < w0.heap.size) : Aft F w0 w pa pm s := ⟨h.is.widen (fun _ e => Or.inl e) (Grow.lt hl h.kept.size), h.kept, hl⟩

theorem getT (c f : Int) (h : Ex F w0 w pa pm s) (hs : s.steps ≤ 100000000) : Calls Try.prog 44 #[.pointer (some ⟨pa, 0, none⟩), .int .i64 c, .int .i64 f] w fun e w' => e = .returned (.int .i64 (getS s c f)) ∧ Ex F w0 w' pa pm (tk s 1) :=
  (getA pa pm s _ c f w h.is hs).mono fun _ _ ⟨h1, h2, h3⟩ => ⟨h1, h.stay h2 h3⟩
theorem cellT (c f : Int) (h : Ex F w0 w pa pm s) (hs : s.steps ≤ 100000000) : Calls Try.prog 29 #[.pointer (some ⟨pa, 0, none⟩), .int .i64 c, .int .i64 f] w fun e w' => e = .returned (.int .i64 (cellS s c f)) ∧ Ex F w0 w' pa pm (tk s 1) :=
  (cellA pa pm s _ c f w h.is hs).mono fun _ _ ⟨h1, h2, h3⟩ => ⟨h1, h.stay h2 h3⟩
theorem setT (c f v : Int) (h : Ex F w0 w pa pm s) (hs : s.steps ≤ 100000000) : Calls Try.prog 39 #[.pointer (some ⟨pa, 0, none⟩), .int .i64 c, .int .i64 f, .int .i64 v] w fun e w' => e = .returned (.bool (mayS s c f)) ∧ Ex F w0 w' pa pm (setS s c f v) :=
  (setA pa pm s _ c f v w h.is hs).mono fun _ _ ⟨h1, h2, h3⟩ => ⟨h1, h.stay h2 h3⟩
theorem liveT (c : Int) (h : Ex F w0 w pa pm s) : Calls Try.prog 46 #[.pointer (some ⟨pa, 0, none⟩), .int .i64 c] w fun e w' => e = .returned (.bool (liveS s c)) ∧ w' = w :=
  liveA pa pm s _ c w h.is
end

/-- is the entry (a1, a2) before (b1, b2)? -/
def bef (a1 a2 b1 b2 : Int) : Bool := decide (a1 < b1 ∨ a1 = b1 ∧ a2 < b2)
/-- how the entries (a1, a2) and (b1, b2) compare -/
def cmpS (a1 a2 b1 b2 : Int) : Int := if bef a1 a2 b1 b2 = true then -1 else if bef b1 b2 a1 a2 = true then 1 else 0

set_option maxHeartbeats 400000 in
theorem before_any (a1 a2 b1 b2 : Int) (w : World) :
    Calls Try.prog 98 #[.agg #[.int .i64 a1, .int .i64 a2], .agg #[.int .i64 b1, .int .i64 b2]] w fun e w' =>
      e = .returned (.bool (bef a1 a2 b1 b2)) ∧ ∃ c1 c2 : Array Value, w' = (w.alloc (.cells c1 34)).alloc (.cells c2 34) := by
  by_cases p : a1 = b1
  · subst p
    have hne : (a1 != a1) = false := by simp
    go_enter Try.func98, Try.ntmps98
    go_wp2
    go_ret
    exact ⟨ret_bool (by simp [bef]), _, _, rfl⟩
  · have hne : (a1 != b1) = true := by simp [p]
    go_enter Try.func98, Try.ntmps98
    go_wp2
    go_ret
    exact ⟨ret_bool (by simp [bef, p]), _, _, rfl⟩

set_option maxHeartbeats 400000 in
theorem refBefore_any (a1 a2 b1 b2 : Int) (w : World) :
    Calls Try.prog 21 #[.agg #[.int .i64 a1, .int .i64 a2], .agg #[.int .i64 b1, .int .i64 b2]] w fun e w' =>
      e = .returned (.bool (bef a1 a2 b1 b2)) ∧ ∃ c1 c2 : Array Value, w' = (w.alloc (.cells c1 34)).alloc (.cells c2 34) := by
  by_cases p : a1 < b1
  · go_enter Try.func21, Try.ntmps21
    go_wp2
    go_ret
    exact ⟨ret_bool (by simp [bef, p]), _, _, rfl⟩
  · by_cases q : a1 = b1
    · subst q
      by_cases r : a2 < b2
      · go_enter Try.func21, Try.ntmps21
        go_wp2
        go_ret
        exact ⟨ret_bool (by simp [bef, r]), _, _, rfl⟩
      · go_enter Try.func21, Try.ntmps21
        go_wp2
        go_ret
        exact ⟨ret_bool (by simp [bef, r]), _, _, rfl⟩
    · have hne : (a1 == b1) = false := by simp [q]
      go_enter Try.func21, Try.ntmps21
      go_wp2
      go_ret
      exact ⟨ret_bool (by simp [bef, p, q]), _, _, rfl⟩

theorem plain2 (w : World) (o1 o2 : Obj) : Kept (fun _ => False) w ((w.alloc o1).alloc o2) := ((Kept.refl _ _).alloc _).alloc _
set_option maxHeartbeats 400000 in
theorem compare_any (a1 a2 b1 b2 : Int) (w : World) :
    Calls Try.prog 91 #[.agg #[.int .i64 a1, .int .i64 a2], .agg #[.int .i64 b1, .int .i64 b2]] w fun e w' =>
      e = .returned (.int .i64 (cmpS a1 a2 b1 b2)) ∧ Kept (fun _ => False) w w' := by
  have h1 := fun w => before_any a1 a2 b1 b2 w
  have h2 := fun w => before_any b1 b2 a1 a2 w
  unfold cmpS
  generalize bef a1 a2 b1 b2 = r at h1 ⊢
  generalize bef b1 b2 a1 a2 = s at h2 ⊢
  have H1 : Hid _ := h1
  have H2 : Hid _ := h2
  clear h1 h2
  have hz : w.heap.size < w.heap.size + 1 + 1 + 1 := by omega
  have hz' : w.heap.size + 1 < w.heap.size + 1 + 1 + 1 := by omega
  cases r
  · cases s
    all_goals
      go_enter Try.func91, Try.ntmps91
      go_wp2_with fail
      refine (H1.out _).mono ?_
      rintro e w' ⟨rfl, c1, c2, rfl⟩
      go_wp2_with fail
      refine (H2.out _).mono ?_
      rintro e w' ⟨rfl, c3, c4, rfl⟩
      go_wp2
      go_ret
      exact ⟨ret_int (by simp), (((((Kept.refl _ _).alloc _).alloc _).alloc _).alloc _).alloc _ |>.alloc _⟩
  · go_enter Try.func91, Try.ntmps91
    go_wp2_with fail
    refine (H1.out _).mono ?_
    rintro e w' ⟨rfl, c1, c2, rfl⟩
    go_wp2
    go_ret
    exact ⟨ret_int (by simp), ((((Kept.refl _ _).alloc _).alloc _).alloc _).alloc _⟩

theorem cmp_lt {a1 a2 b1 b2 : Int} (h : bef a1 a2 b1 b2 = true) : cmpS a1 a2 b1 b2 = -1 := by unfold cmpS; rw [if_pos h]
theorem cmp_gt {a1 a2 b1 b2 : Int} (h : bef a1 a2 b1 b2 = false) (h' : bef b1 b2 a1 a2 = true) : cmpS a1 a2 b1 b2 = 1 := by unfold cmpS; rw [if_neg (by simp [h]), if_pos h']
theorem cmp_eq {a1 a2 b1 b2 : Int} (h : bef a1 a2 b1 b2 = false) (h' : bef b1 b2 a1 a2 = false) : cmpS a1 a2 b1 b2 = 0 := by unfold cmpS; rw [if_neg (by simp [h]), if_neg (by simp [h'])]

/-- is the item c before d? -/
def befS (s : St) (c d : Int) : Bool := bef (getS s c 7) (getS s c 8) (getS s d 7) (getS s d 8) || (decide (getS s c 7 = getS s d 7 ∧ getS s c 8 = getS s d 8) && decide (c < d))

section
variable {F : Nat → Prop} {w0 w w' : World} {pa pm : Nat} {s s' : St}

set_option maxHeartbeats 1000000 in
theorem entryT (c : Int) (h : Ex F w0 w pa pm s) (hs : s.steps ≤ 99999990) :
    Calls Try.prog 20 #[.pointer (some ⟨pa, 0, none⟩), .int .i64 c] w fun e w' => e = .returned (.agg #[.int .i64 (getS s c 7), .int .i64 (getS s c 8)]) ∧ Ex F w0 w' pa pm (tk s 2) := by
  obtain ⟨b, hb⟩ : ∃ b, b = w.heap.size := ⟨_, rfl⟩
  have HW := hid h.kept
  have HA := hid ((Ex.start h.is).plain ((Kept.refl _ _).alloc (.cells #[.int .i64 0, .int .i64 0] 34)))
  have hbF : ¬ F b := fun e => by have := h.is.lt b e; omega
  have BA := hid (show (w.alloc (.cells #[.int .i64 0, .int .i64 0] 34)).heap[b]? = some (.cells #[.int .i64 0, .int .i64 0] 34) by rw [hb]; exact heap_alloc_new w (.cells #[.int .i64 0, .int .i64 0] 34))
  have BS := hid (show b < (w.alloc (.cells #[.int .i64 0, .int .i64 0] 34)).heap.size by rw [hb]; simp)
  have HB := hid hb
  have hbw : w.heap.size = b := hb.symm
  have BF := hid hbF
  clear hb hbF h
  go_enter Try.func20, Try.ntmps20
  go_wp2_with fail
  refine (getA pa pm s F c 7 _ HA.out.is (by omega)).mono ?_
  rintro e w1 ⟨rfl, h1, k1⟩
  have H1 := hid (HA.out.stay h1 k1)
  have B1 := hid ((k1.block b BS.out BF.out).trans BA.out)
  have S1 := hid (Nat.lt_of_lt_of_le BS.out k1.size)
  clear h1 k1 HA BA BS
  go_wp2_with fail
  refine (getA pa pm (tick s) F c 8 _ H1.out.is (by show s.steps + 1 ≤ _; omega)).mono ?_
  rintro e w2 ⟨rfl, h2, k2⟩
  have H2 := hid (H1.out.stay h2 k2)
  have hb2 := (k2.block b S1.out BF.out).trans B1.out
  have hs2 : b < w2.heap.size := Nat.lt_of_lt_of_le S1.out k2.size
  have B2 := hid hb2
  have c0 : w2.cell? ⟨b, 0, none⟩ = some (.int .i64 0) := by simp [World.cell?, hb2]
  have c1 : w2.cell? ⟨b, 1, none⟩ = some (.int .i64 0) := by simp [World.cell?, hb2]
  have f0 : w2.frozen? ⟨b, 0, none⟩ = false := blk_free hb2
  have f1 : w2.frozen? ⟨b, 1, none⟩ = false := blk_free hb2
  rw [get_tick]
  obtain ⟨x, hx⟩ : ∃ x, x = getS s c 7 := ⟨_, rfl⟩
  obtain ⟨y, hy⟩ : ∃ y, y = getS s c 8 := ⟨_, rfl⟩
  have HX := hid hx
  have HY := hid hy
  rw [← hx, ← hy]
  clear h2 k2 H1 B1 S1 hb2 hbw hx hy
  go_wp2
  have b1 := blk_set (j := 0) (u := .int .i64 x) B2.out
  have b2 := blk_set (j := 1) (u := .int .i64 y) b1
  refine bodyPost_ret (v := .agg #[.int .i64 x, .int .i64 y]) (results_cell_row rfl _ _ b 34 #[.int .i64 x, .int .i64 y] _ _ rfl (by simpa using b2) Try.underlying34 rfl (by kernel_rfl)) rfl ?_
  have kk : Kept (fun k => k = b) w2 ((w2.setCell ⟨b, 0, none⟩ (.int .i64 x)).setCell ⟨b, 1, none⟩ (.int .i64 y)) := ((Kept.refl (fun k => k = b) w2).setCell (p := ⟨b, 0, none⟩) (Or.inl rfl) _).setCell (p := ⟨b, 1, none⟩) (Or.inl rfl) _
  have q := H2.out.other kk (fun k hF hk => BF.out (hk ▸ hF)) (fun k hk => by rw [hk, HB.out]; exact Nat.le_refl _)
  rw [← HX.out, ← HY.out]
  exact ⟨rfl, ⟨q.is, HW.out.trans' q.kept⟩⟩

set_option maxHeartbeats 1000000 in
theorem beforeT (c d : Int) (h : Ex F w0 w pa pm s) (hs : s.steps ≤ 99999900) :
    Calls Try.prog 78 #[.pointer (some ⟨pa, 0, none⟩), .int .i64 c, .int .i64 d] w fun e w' => e = .returned (.bool (befS s c d)) ∧ Ex F w0 w' pa pm (tk s 4) := by
  have HH := hid h
  clear h
  have C := hid (fun w => compare_any (getS s c 7) (getS s c 8) (getS s d 7) (getS s d 8) w)
  obtain ⟨r, hr⟩ : ∃ r, cmpS (getS s c 7) (getS s c 8) (getS s d 7) (getS s d 8) = r := ⟨_, rfl⟩
  rw [hr] at C
  have HR := hid hr
  clear hr
  go_enter Try.func78, Try.ntmps78
  go_wp2_with fail
  refine (entryT c HH.out (by omega)).mono ?_
  rintro e w1 ⟨rfl, h1⟩
  have H1 := hid h1
  clear h1 HH
  go_wp2_with fail
  refine (entryT d H1.out (by show s.steps + 2 ≤ _; omega)).mono ?_
  rintro e w2 ⟨rfl, h2⟩
  have H2 := hid h2
  clear h2 H1
  go_wp2_with fail
  refine (C.out _).mono ?_
  rintro e w3 ⟨rfl, k3⟩
  have H3 := hid (H2.out.plain k3)
  clear k3 H2 C
  by_cases q1 : bef (getS s c 7) (getS s c 8) (getS s d 7) (getS s d 8) = true
  · obtain rfl : r = -1 := HR.out.symm.trans (cmp_lt q1)
    have Q := hid (show befS s c d = true by unfold befS; rw [q1]; rfl)
    clear q1
    go_wp2
    go_ret
    exact ⟨ret_bool Q.out.symm, H3.out⟩
  · replace q1 : bef (getS s c 7) (getS s c 8) (getS s d 7) (getS s d 8) = false := by simpa using q1
    by_cases q2 : bef (getS s d 7) (getS s d 8) (getS s c 7) (getS s c 8) = true
    · obtain rfl : r = 1 := HR.out.symm.trans (cmp_gt q1 q2)
      have Q := hid (show befS s c d = false by
        unfold befS; rw [q1]
        simp [bef] at q1 q2 ⊢; omega)
      clear q1 q2
      go_wp2
      go_ret
      exact ⟨ret_bool Q.out.symm, H3.out⟩
    · replace q2 : bef (getS s d 7) (getS s d 8) (getS s c 7) (getS s c 8) = false := by simpa using q2
      obtain rfl : r = 0 := HR.out.symm.trans (cmp_eq q1 q2)
      have Q := hid (show befS s c d = decide (c < d) by
        unfold befS; rw [q1]
        simp [bef] at q1 q2
        rw [show decide (getS s c 7 = getS s d 7 ∧ getS s c 8 = getS s d 8) = true by simp; omega]
        simp)
      clear q1 q2
      go_wp2
      go_ret
      exact ⟨ret_bool Q.out.symm, H3.out⟩

theorem nodeT (c : Int) (h : Ex F w0 w pa pm s) (hs : s.steps ≤ 99999990) :
    Calls Try.prog 32 #[.pointer (some ⟨pa, 0, none⟩), .int .i64 c] w fun e w' => e = .returned (.int .i64 (cellS s c 9)) ∧ Ex F w0 w' pa pm (tk s 1) := by
  have C := hid (cellT c 9 h (by omega))
  clear h
  go_enter Try.func32, Try.ntmps32
  go_wp2_with fail
  refine C.out.mono ?_
  rintro e w1 ⟨rfl, h1⟩
  have H1 := hid h1
  clear h1
  go_wp2
  go_ret
  exact ⟨rfl, H1.out⟩

/-- Lower: what is told, what is then -/
def lowB (s : St) (c key : Int) : Bool := if getS s c 7 < key then false else mayS s c 7
def lowS (s : St) (c key : Int) : St := if getS s c 7 < key then tk s 1 else setS (tk s 1) c 7 key
set_option maxHeartbeats 1000000 in
theorem lowerT (c key : Int) (h : Ex F w0 w pa pm s) (hs : s.steps ≤ 99999990) :
    Calls Try.prog 26 #[.pointer (some ⟨pa, 0, none⟩), .int .i64 c, .int .i64 key] w fun e w' => e = .returned (.bool (lowB s c key)) ∧ Ex F w0 w' pa pm (lowS s c key) := by
  have G := hid (getT c 7 h (by omega))
  clear h
  by_cases q : getS s c 7 < key
  · have Q1 := hid (show lowB s c key = false by unfold lowB; rw [if_pos q])
    have Q2 := hid (show lowS s c key = tk s 1 by unfold lowS; rw [if_pos q])
    generalize getS s c 7 = x at q G
    go_enter Try.func26, Try.ntmps26
    go_wp2_with fail
    refine G.out.mono ?_
    rintro e w1 ⟨rfl, h1⟩
    have H1 := hid h1
    clear h1
    go_wp2
    go_ret
    rw [Q1.out, Q2.out]
    exact ⟨rfl, H1.out⟩
  · have Q1 := hid (show lowB s c key = mayS s c 7 by unfold lowB; rw [if_neg q])
    have Q2 := hid (show lowS s c key = setS (tk s 1) c 7 key by unfold lowS; rw [if_neg q])
    generalize getS s c 7 = x at q G
    have q' : decide (x < key) = false := by simp; omega
    clear q
    go_enter Try.func26, Try.ntmps26
    go_wp2_with fail
    refine G.out.mono ?_
    rintro e w1 ⟨rfl, h1⟩
    have H1 := hid h1
    clear h1
    go_wp2_with fail
    refine (setT c 7 key H1.out (by show s.steps + 1 ≤ _; omega)).mono ?_
    rintro e w2 ⟨rfl, h2⟩
    have H2 := hid h2
    clear h2
    go_wp2
    go_ret
    rw [Q1.out, Q2.out]
    exact ⟨rfl, H2.out⟩

/-- an item is made -/
def newS (s : St) (key serial : Int) : St := if 0 ≤ nextS s then setS (setS (takeS s) (nextS s) 7 key) (nextS s) 8 serial else takeS s
theorem set_steps (s : St) (c f v : Int) : (setS s c f v).steps = s.steps + 1 := by unfold setS; split <;> rfl
theorem take_steps (s : St) : (takeS s).steps = s.steps + 1 := by unfold takeS; split; rfl; split <;> rfl
theorem give_steps (s : St) (c : Int) : (giveS s c).steps = s.steps + 1 := by unfold giveS; split <;> rfl
theorem next_neg {s : St} (h : ¬ 0 ≤ nextS s) : nextS s = -1 := by
  unfold nextS at h ⊢
  split at h
  · omega
  · split at h
    · rename_i q; rw [if_pos q]
    · omega
set_option maxHeartbeats 1000000 in
theorem newT (key serial : Int) (h : Aft F w0 w pa pm s) (hs : s.steps ≤ 99999990) :
    Calls Try.prog 14 #[.pointer (some ⟨pa, 0, none⟩), .int .i64 key, .int .i64 serial] w fun e w' => e = .returned (.tuple #[.int .i64 (nextS s), .bool (decide (0 ≤ nextS s))]) ∧ Aft F w0 w' pa pm (newS s key serial) := by
  have T := hid (takeT h (by omega))
  clear h
  by_cases q : 0 ≤ nextS s
  · have Q := hid (show newS s key serial = setS (setS (takeS s) (nextS s) 7 key) (nextS s) 8 serial by unfold newS; rw [if_pos q])
    have Q3 := hid (show decide (0 ≤ nextS s) = true by simp [q])
    rw [show decide (0 ≤ nextS s) = true by simp [q]] at T
    generalize nextS s = n at T Q Q3
    clear q
    go_enter Try.func14, Try.ntmps14
    go_wp2_with fail
    refine T.out.mono ?_
    rintro e w1 ⟨rfl, h1⟩
    have H1 := hid h1
    clear h1 T
    go_wp2_with fail
    refine (setT n 7 key H1.out.ex (by rw [take_steps]; omega)).mono ?_
    rintro e w2 ⟨rfl, h2⟩
    have H2 := hid (H1.out.back h2)
    clear h2 H1
    generalize mayS (takeS s) n 7 = m1
    go_wp2_with fail
    refine (setT n 8 serial H2.out.ex (by rw [set_steps, take_steps]; omega)).mono ?_
    rintro e w3 ⟨rfl, h3⟩
    have H3 := hid (H2.out.back h3)
    clear h3 H2
    generalize mayS (setS (takeS s) n 7 key) n 8 = m2
    go_wp2
    go_ret2
    rw [Q.out, Q3.out]
    exact ⟨rfl, H3.out⟩
  · have Q := hid (show newS s key serial = takeS s by unfold newS; rw [if_neg q])
    have Q3 := hid (show decide (0 ≤ nextS s) = false by simp; omega)
    rw [show decide (0 ≤ nextS s) = false by simp; omega, next_neg q] at T
    rw [next_neg q]
    clear q
    go_enter Try.func14, Try.ntmps14
    go_wp2_with fail
    refine T.out.mono ?_
    rintro e w1 ⟨rfl, h1⟩
    have H1 := hid h1
    clear h1 T
    go_wp2
    go_ret2
    rw [Q.out]
    exact ⟨rfl, H1.out⟩
end
end Go.Proofs.Ythfdooigljkfiab

/- Leftist heaps: the small functions as plain functions of the arena's state, and their walks. -/
namespace Go.Proofs.Ythfdooigljkfiab
open Go.ChangeShapes Go.WideShapes Go.ChangeAt Go.RowKit

theorem cell_range (s : St) (c f : Int) (h : s.most ≤ 65536) : -1 ≤ cellS s c f ∧ cellS s c f < 65536 := by
  unfold cellS; split <;> omega

/-- root -/
def rootS (s : St) (r : Int) : Int := if cellS s r 0 = -1 ∧ cellS s (cellS s r 6) 9 = r then r else -1
/-- child -/
def chS (s : St) (n f : Int) : Int := if cellS s (cellS s n f) 0 = n then cellS s n f else -1
/-- children -/
def lcS (s : St) (n : Int) : Int := chS s n 2
def rcS (s : St) (n : Int) : Int := if chS s n 2 = chS s n 3 then -1 else chS s n 3
def rkS (s : St) (n : Int) : Int := max (getS s n 4) 0
/-- before -/
def nbS (s : St) (n m : Int) : Bool := befS s (cellS s n 6) (cellS s m 6)
/-- link -/
def lkS (s : St) (n f c : Int) : St := setS (setS s n f c) c 0 n
/-- lean, with its children in their order -/
def leS (s : St) (n c d low : Int) : St := setS (tk (lkS (lkS (tk s 2) n 2 c) n 3 d) 1) n 4 (low + 1)
def leanS (s : St) (n c d : Int) : St := if rkS s c < rkS s d then leS s n d c (rkS s c) else leS s n c d (rkS s d)
def wasS (s : St) (n c d : Int) : Int := getS (lkS (lkS (tk s 2) n 2 c) n 3 d) n 4
def leanB (s : St) (n c d : Int) : Bool := if rkS s c < rkS s d then wasS s n d c != rkS s c + 1 else wasS s n c d != rkS s d + 1

theorem lk_steps (s : St) (n f c : Int) : (lkS s n f c).steps = s.steps + 2 := by unfold lkS; rw [set_steps, set_steps]
theorem le_steps (s : St) (n c d low : Int) : (leS s n c d low).steps = s.steps + 8 := by
  unfold leS; rw [set_steps]; show (lkS _ _ _ _).steps + 1 + 1 = _; rw [lk_steps, lk_steps]; show s.steps + 2 + 2 + 2 + 1 + 1 = _; rfl
theorem lean_steps (s : St) (n c d : Int) : (leanS s n c d).steps = s.steps + 8 := by unfold leanS; split <;> exact le_steps _ _ _ _ _
theorem set_most (s : St) (c f v : Int) : (setS s c f v).most = s.most := by unfold setS; split <;> rfl
theorem ret_tt {x x' y y' : Int} (h : x = x') (h' : y = y') : Ending.returned (.tuple #[.int .i64 x, .int .i64 y]) = .returned (.tuple #[.int .i64 x', .int .i64 y']) := by rw [h, h']

section
variable {F : Nat → Prop} {w0 w w' : World} {pa pm : Nat} {s s' : St}

set_option maxHeartbeats 1000000 in
theorem rootT (r : Int) (h : Ex F w0 w pa pm s) (hs : s.steps ≤ 99999900) :
    Calls Try.prog 30 #[.pointer (some ⟨pa, 0, none⟩), .int .i64 r] w fun e w' => e = .returned (.int .i64 (rootS s r)) ∧ ∃ k, k ≤ 3 ∧ Ex F w0 w' pa pm (tk s k) := by
  have C := hid (cellT r 0 h (by omega))
  clear h
  by_cases q : cellS s r 0 = -1
  · obtain ⟨i, hi⟩ : ∃ i, i = cellS s r 6 := ⟨_, rfl⟩
    have HI := hid hi
    by_cases q2 : cellS s i 9 = r
    · have Q := hid (show rootS s r = r by unfold rootS; rw [← hi, if_pos ⟨q, q2⟩])
      rw [q] at C
      have Q2 := hid q2
      clear q q2 hi
      go_enter Try.func30, Try.ntmps30
      go_wp2_with fail
      refine C.out.mono ?_
      rintro e w1 ⟨rfl, h1⟩
      have H1 := hid h1
      clear h1
      go_wp2_with fail
      refine (cellT r 6 H1.out (by show s.steps + 1 ≤ _; omega)).mono ?_
      rintro e w2 ⟨rfl, h2⟩
      have H2 := hid h2
      clear h2 H1
      rw [show cellS (tk s 1) r 6 = i from HI.out.symm]
      go_wp2_with fail
      refine (nodeT i H2.out (by show s.steps + 1 + 1 ≤ _; omega)).mono ?_
      rintro e w3 ⟨rfl, h3⟩
      have H3 := hid h3
      clear h3 H2
      rw [show cellS (tk (tk s 1) 1) i 9 = r from Q2.out]
      go_wp2
      go_ret
      exact ⟨ret_int Q.out.symm, 3, Nat.le_refl _, H3.out⟩
    · have Q := hid (show rootS s r = -1 by unfold rootS; rw [← hi, if_neg (fun z => q2 z.2)])
      rw [q] at C
      obtain ⟨m, hm⟩ : ∃ m, m = cellS s i 9 := ⟨_, rfl⟩
      rw [← hm] at q2
      have HM := hid hm
      have q2' : (m == r) = false := by simp [q2]
      clear q q2 hi hm
      go_enter Try.func30, Try.ntmps30
      go_wp2_with fail
      refine C.out.mono ?_
      rintro e w1 ⟨rfl, h1⟩
      have H1 := hid h1
      clear h1
      go_wp2_with fail
      refine (cellT r 6 H1.out (by show s.steps + 1 ≤ _; omega)).mono ?_
      rintro e w2 ⟨rfl, h2⟩
      have H2 := hid h2
      clear h2 H1
      rw [show cellS (tk s 1) r 6 = i from HI.out.symm]
      go_wp2_with fail
      refine (nodeT i H2.out (by show s.steps + 1 + 1 ≤ _; omega)).mono ?_
      rintro e w3 ⟨rfl, h3⟩
      have H3 := hid h3
      clear h3 H2
      rw [show cellS (tk (tk s 1) 1) i 9 = m from HM.out.symm]
      go_wp2
      go_ret
      exact ⟨ret_int Q.out.symm, 3, Nat.le_refl _, H3.out⟩
  · have Q := hid (show rootS s r = -1 by unfold rootS; rw [if_neg (fun z => q z.1)])
    obtain ⟨m, hm⟩ : ∃ m, m = cellS s r 0 := ⟨_, rfl⟩
    rw [← hm] at q C
    have q' : (m == -1) = false := by simp [q]
    clear hm
    go_enter Try.func30, Try.ntmps30
    go_wp2_with fail
    refine C.out.mono ?_
    rintro e w1 ⟨rfl, h1⟩
    have H1 := hid h1
    clear h1
    go_wp2
    go_ret
    exact ⟨ret_int Q.out.symm, 1, by omega, H1.out⟩

set_option maxHeartbeats 1000000 in
theorem nbeforeT (n m : Int) (h : Ex F w0 w pa pm s) (hs : s.steps ≤ 99999800) :
    Calls Try.prog 73 #[.pointer (some ⟨pa, 0, none⟩), .int .i64 n, .int .i64 m] w fun e w' => e = .returned (.bool (nbS s n m)) ∧ Ex F w0 w' pa pm (tk s 6) := by
  have C := hid (cellT n 6 h (by omega))
  clear h
  obtain ⟨c, hc⟩ : ∃ c, c = cellS s n 6 := ⟨_, rfl⟩
  rw [← hc] at C
  obtain ⟨d, hd⟩ : ∃ d, d = cellS s m 6 := ⟨_, rfl⟩
  have HD := hid hd
  have Q := hid (show nbS s n m = befS s c d by unfold nbS; rw [← hc, ← hd])
  clear hc hd
  go_enter Try.func73, Try.ntmps73
  go_wp2_with fail
  refine C.out.mono ?_
  rintro e w1 ⟨rfl, h1⟩
  have H1 := hid h1
  clear h1 C
  go_wp2_with fail
  refine (cellT m 6 H1.out (by show s.steps + 1 ≤ _; omega)).mono ?_
  rintro e w2 ⟨rfl, h2⟩
  have H2 := hid h2
  clear h2 H1
  rw [show cellS (tk s 1) m 6 = d from HD.out.symm]
  go_wp2_with fail
  refine (beforeT c d H2.out (by show s.steps + 1 + 1 ≤ _; omega)).mono ?_
  rintro e w3 ⟨rfl, h3⟩
  have H3 := hid h3
  clear h3 H2
  rw [show befS (tk (tk s 1) 1) c d = nbS s n m from Q.out.symm]
  go_wp2
  go_ret
  exact ⟨rfl, H3.out⟩

end
end Go.Proofs.Ythfdooigljkfiab

/- Leftist heaps: lean, meld, as plain functions, and their walks. -/
namespace Go.Proofs.Ythfdooigljkfiab
open Go.ChangeShapes Go.WideShapes Go.ChangeAt Go.RowKit

/-- a cell, or none -/
def Cl (c : Int) : Prop := -1 ≤ c ∧ c ≤ 65536
theorem Cl.cell (s : St) (c f : Int) (h : s.most ≤ 65536) : Cl (cellS s c f) := ⟨(cell_range s c f h).1, by have := (cell_range s c f h).2; omega⟩
theorem Cl.none : Cl (-1) := ⟨by omega, by omega⟩
theorem Cl.ch (s : St) (n f : Int) (h : s.most ≤ 65536) : Cl (chS s n f) := by
  unfold chS; split
  · exact Cl.cell s n f h
  · exact Cl.none
theorem Cl.lc (s : St) (n : Int) (h : s.most ≤ 65536) : Cl (lcS s n) := Cl.ch s n 2 h
theorem Cl.rc (s : St) (n : Int) (h : s.most ≤ 65536) : Cl (rcS s n) := by
  unfold rcS; split
  · exact Cl.none
  · exact Cl.ch s n 3 h
theorem Cl.root (s : St) {r : Int} (h : Cl r) : Cl (rootS s r) := by
  unfold rootS; split
  · exact h
  · exact Cl.none

section
variable {F : Nat → Prop} {w0 w w' : World} {pa pm : Nat} {s s' : St}
/-- which node is on top, and the other -/
def topS (s : St) (r t : Int) : Int := if nbS s t r = true then t else r
def othS (s : St) (r t : Int) : Int := if nbS s t r = true then r else t
/-- meld, at most so many levels down -/
def meldS : Nat → St → Int → Int → Int × St
  | 0, s, r, _ => (r, s)
  | n + 1, s, r, t =>
    if t = -1 ∨ r = t then (r, s) else if r = -1 then (t, s) else
      (topS s r t, leanS (meldS n (tk s 10) (rcS s (topS s r t)) (othS s r t)).2 (topS s r t) (lcS s (topS s r t)) (meldS n (tk s 10) (rcS s (topS s r t)) (othS s r t)).1)
/-- so many are enough, and no Rank is too great -/
def mOk : Nat → St → Int → Int → Prop
  | 0, _, _, _ => False
  | n + 1, s, r, t =>
    (t = -1 ∨ r = t) ∨ r = -1 ∨ (mOk n (tk s 10) (rcS s (topS s r t)) (othS s r t) ∧
      rkS (meldS n (tk s 10) (rcS s (topS s r t)) (othS s r t)).2 (lcS s (topS s r t)) < 1000000 ∧
      rkS (meldS n (tk s 10) (rcS s (topS s r t)) (othS s r t)).2 (meldS n (tk s 10) (rcS s (topS s r t)) (othS s r t)).1 < 1000000)
theorem meld_steps : ∀ (n : Nat) (s : St) (r t : Int), (meldS n s r t).2.steps ≤ s.steps + 18 * n
  | 0, s, r, t => by show s.steps ≤ _; omega
  | n + 1, s, r, t => by
    unfold meldS
    split
    · show s.steps ≤ _; omega
    · split
      · show s.steps ≤ _; omega
      · rw [lean_steps]
        have := meld_steps n (tk s 10) (rcS s (topS s r t)) (othS s r t)
        have e : (tk s 10).steps = s.steps + 10 := rfl
        omega
theorem meld_cl : ∀ (n : Nat) (s : St) (r t : Int), Cl r → Cl t → Cl (meldS n s r t).1
  | 0, s, r, t => fun h _ => h
  | n + 1, s, r, t => fun h1 h2 => by
    unfold meldS
    split
    · exact h1
    · split
      · exact h2
      · show Cl (topS s r t)
        unfold topS; split <;> assumption

end
end Go.Proofs.Ythfdooigljkfiab

/- Leftist heaps: giveBack, remove, detach, Min, Pop, Meld as plain functions, and their walks. -/
namespace Go.Proofs.Ythfdooigljkfiab
open Go.ChangeShapes Go.WideShapes Go.ChangeAt Go.RowKit

/-- giveBack -/
def gbS (s : St) (n : Int) : St := giveS (setS (tk s 1) (cellS s n 6) 9 (-1)) n
/-- remove, ahead of its meld -/
def rmS (s : St) (n : Int) : St := gbS (setS (setS (tk s 4) (lcS s n) 0 (-1)) (rcS s n) 0 (-1)) n
theorem gb_steps (s : St) (n : Int) : (gbS s n).steps = s.steps + 3 := by unfold gbS; rw [give_steps, set_steps]; rfl
theorem rm_steps (s : St) (n : Int) : (rmS s n).steps = s.steps + 9 := by unfold rmS; rw [gb_steps, set_steps, set_steps]; rfl
theorem give_most (s : St) (c : Int) : (giveS s c).most = s.most := by unfold giveS; split <;> rfl
theorem gb_most (s : St) (n : Int) : (gbS s n).most = s.most := by unfold gbS; rw [give_most, set_most]; rfl
theorem rm_most (s : St) (n : Int) : (rmS s n).most = s.most := by unfold rmS; rw [gb_most, set_most, set_most]; rfl
/-- one round of detach -/
def dtS (s : St) (up : Int) : St := leanS (tk s 4) up (lcS s up) (rcS s up)
def dtB (s : St) (up : Int) : Bool := leanB (tk s 4) up (lcS s up) (rcS s up)
/-- detach's rounds -/
def detS : Nat → St → Int → St
  | 0, s, _ => s
  | k + 1, s, up => if up = -1 then tk s 4 else if dtB s up = true then detS k (tk (dtS s up) 1) (cellS (dtS s up) up 0) else dtS s up
def dOk : Nat → St → Int → Prop
  | 0, _, _ => False
  | k + 1, s, up => up = -1 ∨ (rkS s (lcS s up) < 1000000 ∧ rkS s (rcS s up) < 1000000 ∧ (dtB s up = false ∨ dOk k (tk (dtS s up) 1) (cellS (dtS s up) up 0)))
theorem lk_most (s : St) (n f c : Int) : (lkS s n f c).most = s.most := by unfold lkS; rw [set_most, set_most]
theorem le_most (s : St) (n c d low : Int) : (leS s n c d low).most = s.most := by
  unfold leS; rw [set_most]; show (lkS _ _ _ _).most = _; rw [lk_most, lk_most]; rfl
theorem lean_most (s : St) (n c d : Int) : (leanS s n c d).most = s.most := by unfold leanS; split <;> exact le_most _ _ _ _ _
theorem dt_steps (s : St) (up : Int) : (dtS s up).steps = s.steps + 12 := by unfold dtS; rw [lean_steps]; rfl
theorem dt_most (s : St) (up : Int) : (dtS s up).most = s.most := by unfold dtS; rw [lean_most]; rfl
theorem det_steps : ∀ (k : Nat) (s : St) (up : Int), (detS k s up).steps ≤ s.steps + 13 * k
  | 0, s, up => by show s.steps ≤ _; omega
  | k + 1, s, up => by
    unfold detS
    split
    · show s.steps + 4 ≤ _; omega
    · split
      · have := det_steps k (tk (dtS s up) 1) (cellS (dtS s up) up 0)
        have e : (tk (dtS s up) 1).steps = s.steps + 12 + 1 := by show (dtS s up).steps + 1 = _; rw [dt_steps]
        omega
      · rw [dt_steps]; omega
theorem det_most : ∀ (k : Nat) (s : St) (up : Int), (detS k s up).most = s.most
  | 0, s, up => rfl
  | k + 1, s, up => by
    unfold detS
    split
    · rfl
    · split
      · rw [det_most]; exact dt_most s up
      · exact dt_most s up
theorem meld_most : ∀ (n : Nat) (s : St) (r t : Int), (meldS n s r t).2.most = s.most
  | 0, s, r, t => rfl
  | n + 1, s, r, t => by
    unfold meldS
    split
    · rfl
    · split
      · rfl
      · rw [lean_most, meld_most]; rfl

section
variable {F : Nat → Prop} {w0 w w' : World} {pa pm : Nat} {s s' : St}
set_option maxHeartbeats 1000000 in
theorem giveBackT (n : Int) (h : Aft F w0 w pa pm s) (hs : s.steps ≤ 99999900) :
    Calls Try.prog 65 #[.pointer (some ⟨pa, 0, none⟩), .int .i64 n] w fun e w' => e = .returned (.tuple #[]) ∧ Aft F w0 w' pa pm (gbS s n) := by
  have HH := hid h
  have C := hid (cellT n 6 h.ex (by omega))
  clear h
  obtain ⟨i, hi⟩ : ∃ i, i = cellS s n 6 := ⟨_, rfl⟩
  have Q := hid (show gbS s n = giveS (setS (tk s 1) i 9 (-1)) n by unfold gbS; rw [← hi])
  rw [← hi] at C
  clear hi
  go_enter Try.func65, Try.ntmps65
  go_wp2_with fail
  refine C.out.mono ?_
  rintro e w1 ⟨rfl, h1⟩
  have H1 := hid (HH.out.back h1)
  clear h1 HH C
  have S := hid (setT i 9 (-1) H1.out.ex (by show s.steps + 1 ≤ _; omega))
  generalize mayS (tk s 1) i 9 = m1 at S
  go_wp2_with fail
  refine S.out.mono ?_
  rintro e w2 ⟨rfl, h2⟩
  have H2 := hid (H1.out.back h2)
  clear h2 H1 S
  have G := hid (giveT n H2.out (by rw [set_steps]; show s.steps + 1 + 1 ≤ _; omega))
  generalize liveS (setS (tk s 1) i 9 (-1)) n = m2 at G
  go_wp2_with fail
  refine G.out.mono ?_
  rintro e w3 ⟨rfl, h3⟩
  have H3 := hid h3
  clear h3 H2 G
  go_wp2
  go_end0
  rw [Q.out]
  exact ⟨rfl, H3.out⟩

end
end Go.Proofs.Ythfdooigljkfiab

/- Leftist heaps: the walks of detach, Push, Fall, Cut. -/
namespace Go.Proofs.Ythfdooigljkfiab
open Go.ChangeShapes Go.WideShapes Go.ChangeAt Go.RowKit

section
variable {F : Nat → Prop} {w0 w w' : World} {pa pm : Nat} {s s' : St}
theorem det_go {k : Nat} {s : St} {up : Int} (h : dOk k s up) (h1 : up ≠ -1) : ∃ k', k = k' + 1 ∧ rkS s (lcS s up) < 1000000 ∧ rkS s (rcS s up) < 1000000 ∧ (dtB s up = false ∧ detS k s up = dtS s up ∨ dtB s up = true ∧ dOk k' (tk (dtS s up) 1) (cellS (dtS s up) up 0) ∧ detS k s up = detS k' (tk (dtS s up) 1) (cellS (dtS s up) up 0)) := by
  cases k with
  | zero => exact h.elim
  | succ k =>
    unfold dOk at h
    rcases h with h | ⟨a, b, h⟩
    · exact absurd h h1
    · refine ⟨k, rfl, a, b, ?_⟩
      cases hb : dtB s up with
      | false => exact Or.inl ⟨rfl, by unfold detS; rw [if_neg h1, hb, if_neg (by decide)]⟩
      | true =>
        rw [hb] at h
        rcases h with h | h
        · cases h
        · exact Or.inr ⟨rfl, h, by rw [detS, if_neg h1, if_pos hb]⟩
theorem det_none {k : Nat} {s : St} (h : dOk k s (-1)) : detS k s (-1) = tk s 4 := by
  cases k with
  | zero => exact h.elim
  | succ k => unfold detS; rw [if_pos rfl]

end
end Go.Proofs.Ythfdooigljkfiab

/- Leftist heaps: the walks of below, Push, Fall, Cut. -/
namespace Go.Proofs.Ythfdooigljkfiab
open Go.ChangeShapes Go.WideShapes Go.ChangeAt Go.RowKit

theorem tk_tk (s : St) (a b : Nat) : tk (tk s a) b = tk s (a + b) := by unfold tk; simp; omega
def belB (s : St) (r n : Int) : Bool := decide (rootS s r ≠ -1) && decide (cellS s n 0 ≠ -1)

section
variable {F : Nat → Prop} {w0 w w' : World} {pa pm : Nat} {s s' : St}
/-- detach, k steps later -/
def dS (kd : Nat) (s : St) (n : Int) (k : Nat) : St := detS kd (setS (tk (tk s k) 1) n 0 (-1)) (cellS s n 0)
theorem ds_steps (kd : Nat) (s : St) (n : Int) (k : Nat) : (dS kd s n k).steps ≤ s.steps + k + 2 + 13 * kd := by
  unfold dS
  have := det_steps kd (setS (tk (tk s k) 1) n 0 (-1)) (cellS s n 0)
  rw [set_steps] at this
  have e : (tk (tk s k) 1).steps = s.steps + k + 1 := rfl
  omega
theorem ds_most (kd : Nat) (s : St) (n : Int) (k : Nat) : (dS kd s n k).most = s.most := by
  unfold dS
  rw [det_most, set_most]; rfl

/-- Cut below: detach, remove -/
def cuS (kd km : Nat) (s : St) (n : Int) (k : Nat) : Int × St := meldS km (rmS (dS kd s n k) n) (lcS (dS kd s n k) n) (rcS (dS kd s n k) n)
end
end Go.Proofs.Ythfdooigljkfiab

/- Leftist heaps: item.Put, Push. -/
namespace Go.Proofs.Ythfdooigljkfiab
open Go.ChangeShapes Go.WideShapes Go.ChangeAt Go.RowKit

section
variable {F : Nat → Prop} {w0 w w' : World} {pa pm : Nat} {s s' : St}
set_option maxHeartbeats 1000000 in
theorem noneLiveT (c : Int) (hc : c ≠ -1) (hl : liveS s c = true) (h : Ex F w0 w pa pm s) : Calls Try.prog 71 #[.pointer (some ⟨pa, 0, none⟩), .int .i64 c] w fun e w' => e = .returned (.bool true) ∧ w' = w := by
  have L := hid (liveT c h)
  rw [hl] at L
  clear h hl
  have hne : (c == -1) = false := by simp [hc]
  go_enter Try.func71, Try.ntmps71
  go_wp2_with fail
  refine L.out.mono ?_
  rintro e w1 ⟨rfl, rfl⟩
  go_wp2
  go_ret
  exact ⟨rfl, rfl⟩

set_option maxHeartbeats 1000000 in
theorem ilinkT (c i : Int) (hc : Cl c) (hi : Cl i) (h : Ex F w0 w pa pm s) (hs : s.steps ≤ 99999990) :
    Calls Try.prog 72 #[.pointer (some ⟨pa, 0, none⟩), .int .i64 c, .int .i64 i] w fun e w' => e = .returned (.tuple #[]) ∧ Ex F w0 w' pa pm (setS (setS s c 6 i) i 9 c) := by
  have C := hid (setT c 6 i h (by omega))
  clear h
  obtain ⟨hn0, hn1⟩ := hc
  obtain ⟨hc0, hc1⟩ := hi
  generalize hm : mayS s c 6 = m1 at C
  clear hm
  go_enter Try.func72, Try.ntmps72
  go_wp2_with fail
  refine C.out.mono ?_
  rintro e w1 ⟨rfl, h1⟩
  have H1 := hid h1
  clear h1 C
  have C := hid (setT i 9 c H1.out (by rw [set_steps]; omega))
  generalize hm : mayS (setS s c 6 i) i 9 = m2 at C
  clear hm
  go_wp2_with fail
  refine C.out.mono ?_
  rintro e w2 ⟨rfl, h2⟩
  have H2 := hid h2
  clear h2 H1
  go_wp2
  go_end0
  exact ⟨rfl, H2.out⟩

set_option maxHeartbeats 1000000 in
theorem putT (c i : Int) (hc : Cl c) (hi : Cl i) (hc1 : c ≠ -1) (hi1 : i ≠ -1) (lc : liveS s c = true) (li : liveS s i = true) (h : Ex F w0 w pa pm s) (hs : s.steps ≤ 99999990) :
    Calls Try.prog 59 #[.pointer (some ⟨pa, 0, none⟩), .int .i64 c, .int .i64 i] w fun e w' => e = .returned (.tuple #[]) ∧ Ex F w0 w' pa pm (setS (setS s c 6 i) i 9 c) := by
  have L1 := hid (noneLiveT c hc1 lc h)
  have L2 := hid (noneLiveT i hi1 li h)
  have L3 := hid (ilinkT c i hc hi h hs)
  clear h hc hi hc1 hi1 lc li
  go_enter Try.func59, Try.ntmps59
  go_wp2_with fail
  refine L1.out.mono ?_
  rintro e w1 ⟨rfl, rfl⟩
  go_wp2_with fail
  refine L2.out.mono ?_
  rintro e w2 ⟨rfl, rfl⟩
  go_wp2_with fail
  refine L3.out.mono ?_
  rintro e w3 ⟨rfl, h3⟩
  have H3 := hid h3
  clear h3
  go_wp2
  go_end0
  exact ⟨rfl, H3.out⟩

/-- Push, ahead of its meld: k steps later -/
def puS (s : St) (i : Int) : St := setS (setS (setS (takeS (tk s 1)) (nextS s) 6 i) i 9 (nextS s)) (nextS s) 4 1
theorem pu_steps (s : St) (i : Int) : (puS s i).steps = s.steps + 5 := by unfold puS; rw [set_steps, set_steps, set_steps, take_steps]; rfl
theorem take_most (s : St) : (takeS s).most = s.most := by unfold takeS; split; rfl; split <;> rfl
theorem pu_most (s : St) (i : Int) : (puS s i).most = s.most := by unfold puS; rw [set_most, set_most, set_most, take_most]; rfl
theorem next_cl {s : St} (h : Ok s) : Cl (nextS s) := by
  have h1 := h.top
  have h2 := h.fits
  unfold nextS
  split
  · rename_i a ha
    obtain ⟨x, hx⟩ := h.free a (List.mem_of_getLast? ha)
    have : a < s.pl.length := (List.getElem?_eq_some_iff.1 hx).1
    exact ⟨by omega, by omega⟩
  · split
    · exact Cl.none
    · exact ⟨by omega, by omega⟩

set_option maxHeartbeats 1000000 in
theorem nnewT_no (i : Int) (hl : liveS s i = true) (hn : cellS s i 9 = -1) (hx : ¬ 0 ≤ nextS s) (h : Aft F w0 w pa pm s) (hs : s.steps ≤ 99999000) :
    Calls Try.prog 40 #[.pointer (some ⟨pa, 0, none⟩), .int .i64 i] w fun e w' => e = .returned (.tuple #[.int .i64 (-1), .bool false]) ∧ Aft F w0 w' pa pm (takeS (tk s 1)) := by
  have HH := hid h
  have L := hid (liveT i h.ex)
  rw [hl] at L
  have C := hid (nodeT i h.ex (by omega))
  rw [hn] at C
  have Q1 := hid (show decide (0 ≤ nextS (tk s 1)) = false by show decide (0 ≤ nextS s) = false; simp; omega)
  have Q2 := hid (show nextS (tk s 1) = -1 from next_neg hx)
  clear h hl hn hx
  go_enter Try.func40, Try.ntmps40
  go_wp2_with fail
  refine L.out.mono ?_
  rintro e w1 ⟨rfl, rfl⟩
  go_wp2_with fail
  refine C.out.mono ?_
  rintro e w2 ⟨rfl, h2⟩
  have H2 := hid (HH.out.back h2)
  clear h2 C L HH
  have T := hid (takeT H2.out (by show s.steps + 1 ≤ _; omega))
  rw [Q1.out, Q2.out] at T
  go_wp2_with fail
  refine T.out.mono ?_
  rintro e w3 ⟨rfl, h3⟩
  have H3 := hid h3
  clear h3 T H2
  go_wp2
  go_ret2
  exact ⟨rfl, H3.out⟩

set_option maxHeartbeats 1000000 in
theorem nnewT (i : Int) (hl : liveS s i = true) (hn : cellS s i 9 = -1) (hx : 0 ≤ nextS s) (hl1 : liveS (takeS (tk s 1)) (nextS s) = true) (hl2 : liveS (takeS (tk s 1)) i = true) (hi : Cl i) (hi1 : i ≠ -1) (h : Aft F w0 w pa pm s) (hs : s.steps ≤ 99999000) :
    Calls Try.prog 40 #[.pointer (some ⟨pa, 0, none⟩), .int .i64 i] w fun e w' => e = .returned (.tuple #[.int .i64 (nextS s), .bool true]) ∧ Aft F w0 w' pa pm (setS (setS (takeS (tk s 1)) (nextS s) 6 i) i 9 (nextS s)) := by
  have HH := hid h
  have L := hid (liveT i h.ex)
  rw [hl] at L
  have C := hid (nodeT i h.ex (by omega))
  rw [hn] at C
  have Q1 := hid (show decide (0 ≤ nextS (tk s 1)) = true by show decide (0 ≤ nextS s) = true; simp; omega)
  have Q2 := hid (show nextS (tk s 1) = nextS s from rfl)
  have CN := hid (next_cl h.is.ok)
  have N1 := hid (show nextS s ≠ -1 by omega)
  have CI := hid hi
  have L1 := hid hl1
  have L2 := hid hl2
  clear h hl hn hx hi hl1 hl2
  generalize nextS s = n at *
  go_enter Try.func40, Try.ntmps40
  go_wp2_with fail
  refine L.out.mono ?_
  rintro e w1 ⟨rfl, rfl⟩
  go_wp2_with fail
  refine C.out.mono ?_
  rintro e w2 ⟨rfl, h2⟩
  have H2 := hid (HH.out.back h2)
  clear h2 C L HH
  have T := hid (takeT H2.out (by show s.steps + 1 ≤ _; omega))
  rw [Q1.out, Q2.out] at T
  go_wp2_with fail
  refine T.out.mono ?_
  rintro e w3 ⟨rfl, h3⟩
  have H3 := hid h3
  clear h3 T H2
  go_wp2_with fail
  refine (putT n i CN.out CI.out N1.out hi1 L1.out L2.out H3.out.ex (by rw [take_steps]; show s.steps + 1 + 1 ≤ _; omega)).mono ?_
  rintro e w4 ⟨rfl, h4⟩
  have H4 := hid (H3.out.back h4)
  clear h4 H3
  go_wp2
  go_ret2
  exact ⟨rfl, H4.out⟩

end
end Go.Proofs.Ythfdooigljkfiab
