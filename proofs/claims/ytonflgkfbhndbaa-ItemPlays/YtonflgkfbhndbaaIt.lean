/- Items: an arena all of whose cells are taken, as plain data; how entries compare; the walks of item's calls. -/
import Derived.Test.YtonflgkfbhndbaaHd
namespace Go.Proofs.Ytonflgkfbhndbaa
open Go.ChangeShapes Go.WideShapes Go.ChangeAt Go.RowKit

/-- an arena of n cells whose first k are taken, and no others were ever; f tells what each has; t its steps -/
def mk (n k : Nat) (f : Nat → Nat → Int) (t : Nat) : St := ⟨n, (List.range k).map (fun c => (f c, true)), [], t⟩
/-- the number j of the cell c is v -/
def put (f : Nat → Nat → Int) (c j : Nat) (v : Int) : Nat → Nat → Int := fun a => if a = c then upd (f c) j v else f a
/-- the cell k was just taken -/
def put0 (f : Nat → Nat → Int) (k : Nat) : Nat → Nat → Int := fun a => if a = k then fr else f a

section
variable {n k t c j : Nat} {f : Nat → Nat → Int} {v : Int}
theorem put_at : put f c j v c j = v := by simp [put, upd]
theorem put_ne {a : Nat} (h : a ≠ c) : put f c j v a = f a := by simp [put, h]
theorem put_nj {a i : Nat} (h : i ≠ j) : put f c j v a i = f a i := by
  by_cases e : a = c
  · subst e; simp [put, upd, h]
  · simp [put, e]
theorem put0_at : put0 f k k = fr := by simp [put0]
theorem put0_ne {a : Nat} (h : a ≠ k) : put0 f k a = f a := by simp [put0, h]
theorem mk_pl (hc : c < k) : (mk n k f t).pl[c]? = some (f c, true) := by simp [mk, hc]
theorem mk_live (hc : c < k) : liveS (mk n k f t) (c : Int) = true := by
  rw [live_iff]
  exact ⟨by omega, f c, by simpa using mk_pl hc⟩
theorem mk_may (hc : c < k) (hj : j ≤ 9) : mayS (mk n k f t) (c : Int) (j : Int) = true := by
  unfold mayS
  rw [mk_live hc]
  simp; omega
theorem mk_get (hc : c < k) (hj : j ≤ 9) : getS (mk n k f t) (c : Int) (j : Int) = f c j := by
  rw [get_yes (mk_may hc hj), has_of (by simpa using mk_pl hc)]
  simp
theorem mk_set (hc : c < k) (hj : j ≤ 9) : setS (mk n k f t) (c : Int) (j : Int) v = mk n k (put f c j v) (t + 1) := by
  rw [set_yes (mk_may hc hj) (by simpa using mk_pl hc)]
  unfold mk
  simp only [St.mk.injEq, true_and, and_true]
  apply List.ext_getElem?
  intro i
  simp only [Int.toNat_natCast]
  by_cases e : i = c
  · subst e
    rw [List.getElem?_set_self (by simp [hc])]
    simp [hc, put]
  · rw [List.getElem?_set_ne (fun q => e q.symm)]
    by_cases hi : i < k
    · simp [hi, put, e]
    · simp [hi]
theorem mk_next (hk : k < n) : nextS (mk n k f t) = (k : Int) := by
  unfold nextS mk
  simp; omega
theorem mk_take (hk : k < n) : takeS (mk n k f t) = mk n (k + 1) (put0 f k) (t + 1) := by
  unfold takeS mk
  simp only [List.getLast?_nil, List.length_map, List.length_range]
  rw [if_neg (by omega)]
  simp only [St.mk.injEq, true_and, and_true]
  rw [List.range_succ, List.map_append]
  congr 1
  · apply List.map_congr_left
    intro a ha
    have : a < k := by simpa using ha
    rw [put0_ne (by omega)]
  · simp [put0_at]
theorem mk_next_no : nextS (mk n n f t) = -1 := by unfold nextS mk; simp
theorem mk_take_no : takeS (mk n n f t) = mk n n f (t + 1) := by unfold takeS mk; simp [tick]
theorem mk_cell {d : Nat} (hc : c < k) (hj : j ≤ 9) (h : f c j = (d : Int)) (hd : d < n) : cellS (mk n k f t) (c : Int) (j : Int) = (d : Int) := by
  rw [cell_yes (by rw [mk_get hc hj, h]; exact ⟨by omega, by show (d : Int) < (n : Int); omega⟩), mk_get hc hj, h]
theorem mk_cell_no (hc : c < k) (hj : j ≤ 9) (h : f c j = -1) : cellS (mk n k f t) (c : Int) (j : Int) = -1 := cell_no (by rw [mk_get hc hj, h]; omega)
theorem mk_start (hn : n ≤ 65536) (f : Nat → Nat → Int) : st0 (n : Int) = mk n 0 f 0 := by
  unfold st0 mk most0
  simp; omega
end

/-- is the entry (a1, a2) before (b1, b2)? -/
def bef (a1 a2 b1 b2 : Int) : Bool := decide (a1 < b1 ∨ a1 = b1 ∧ a2 < b2)
/-- how the entries (a1, a2) and (b1, b2) compare -/
def cmpS (a1 a2 b1 b2 : Int) : Int := if bef a1 a2 b1 b2 = true then -1 else if bef b1 b2 a1 a2 = true then 1 else 0

set_option maxHeartbeats 400000 in
theorem before_any (a1 a2 b1 b2 : Int) (w : World) :
    Calls Try.prog 36 #[.agg #[.int .i64 a1, .int .i64 a2], .agg #[.int .i64 b1, .int .i64 b2]] w fun e w' =>
      e = .returned (.bool (bef a1 a2 b1 b2)) ∧ ∃ c1 c2 : Array Value, w' = (w.alloc (.cells c1 24)).alloc (.cells c2 24) := by
  by_cases p : a1 = b1
  · subst p
    have hne : (a1 != a1) = false := by simp
    go_enter Try.func36, Try.ntmps36
    go_wp2
    go_ret
    exact ⟨ret_bool (by simp [bef]), _, _, rfl⟩
  · have hne : (a1 != b1) = true := by simp [p]
    go_enter Try.func36, Try.ntmps36
    go_wp2
    go_ret
    exact ⟨ret_bool (by simp [bef, p]), _, _, rfl⟩

set_option maxHeartbeats 400000 in
theorem refBefore_any (a1 a2 b1 b2 : Int) (w : World) :
    Calls Try.prog 19 #[.agg #[.int .i64 a1, .int .i64 a2], .agg #[.int .i64 b1, .int .i64 b2]] w fun e w' =>
      e = .returned (.bool (bef a1 a2 b1 b2)) ∧ ∃ c1 c2 : Array Value, w' = (w.alloc (.cells c1 24)).alloc (.cells c2 24) := by
  by_cases p : a1 < b1
  · go_enter Try.func19, Try.ntmps19
    go_wp2
    go_ret
    exact ⟨ret_bool (by simp [bef, p]), _, _, rfl⟩
  · by_cases q : a1 = b1
    · subst q
      by_cases r : a2 < b2
      · go_enter Try.func19, Try.ntmps19
        go_wp2
        go_ret
        exact ⟨ret_bool (by simp [bef, r]), _, _, rfl⟩
      · go_enter Try.func19, Try.ntmps19
        go_wp2
        go_ret
        exact ⟨ret_bool (by simp [bef, r]), _, _, rfl⟩
    · have hne : (a1 == b1) = false := by simp [q]
      go_enter Try.func19, Try.ntmps19
      go_wp2
      go_ret
      exact ⟨ret_bool (by simp [bef, p, q]), _, _, rfl⟩

theorem plain2 (w : World) (o1 o2 : Obj) : Kept (fun _ => False) w ((w.alloc o1).alloc o2) := ((Kept.refl _ _).alloc _).alloc _
set_option maxHeartbeats 400000 in
theorem compare_any (a1 a2 b1 b2 : Int) (w : World) :
    Calls Try.prog 31 #[.agg #[.int .i64 a1, .int .i64 a2], .agg #[.int .i64 b1, .int .i64 b2]] w fun e w' =>
      e = .returned (.int .i64 (cmpS a1 a2 b1 b2)) ∧ Kept (fun _ => False) w w' := by
  have h1 := fun w => before_any a1 a2 b1 b2 w
  have h2 := fun w => before_any b1 b2 a1 a2 w
  unfold cmpS
  generalize bef a1 a2 b1 b2 = r at h1 ⊢
  generalize bef b1 b2 a1 a2 = s at h2 ⊢
  have H1 : Hid _ := h1
  have H2 : Hid _ := h2
  clear h1 h2
  have hz : w.heap.size < w.heap.size + 1 + 1 + 1 := by omega
  have hz' : w.heap.size + 1 < w.heap.size + 1 + 1 + 1 := by omega
  cases r
  · cases s
    all_goals
      go_enter Try.func31, Try.ntmps31
      go_wp2_with fail
      refine (H1.out _).mono ?_
      rintro e w' ⟨rfl, c1, c2, rfl⟩
      go_wp2_with fail
      refine (H2.out _).mono ?_
      rintro e w' ⟨rfl, c3, c4, rfl⟩
      go_wp2
      go_ret
      exact ⟨ret_int (by simp), (((((Kept.refl _ _).alloc _).alloc _).alloc _).alloc _).alloc _ |>.alloc _⟩
  · go_enter Try.func31, Try.ntmps31
    go_wp2_with fail
    refine (H1.out _).mono ?_
    rintro e w' ⟨rfl, c1, c2, rfl⟩
    go_wp2
    go_ret
    exact ⟨ret_int (by simp), ((((Kept.refl _ _).alloc _).alloc _).alloc _).alloc _⟩

section
variable {w0 w w' : World} {F : Nat → Prop} {pa pm n k t : Nat} {f : Nat → Nat → Int}
theorem Kept.any {F : Nat → Prop} {a b : World} (h : Kept (fun _ => False) a b) : Kept F a b := h.mono fun _ e => e.elim

theorem startI (n : Nat) (hn : n ≤ 65536) (f : Nat → Nat → Int) (w : World) : Calls Try.prog 7 #[.int .i64 (n : Int)] w fun e w' => ∃ F pa pm, e = .returned (.pointer (some ⟨pa, 0, none⟩)) ∧ HoldA w w' F pa pm (mk n 0 f 0) :=
  (newAH (n : Int) w).mono fun _ _ ⟨F, pa, pm, h1, h2⟩ => ⟨F, pa, pm, h1, by rw [← mk_start hn f]; exact h2⟩
theorem takeI (h : HoldA w0 w F pa pm (mk n k f t)) (ht : t ≤ 900000) (hk : k < n) : Calls Try.prog 13 #[.pointer (some ⟨pa, 0, none⟩)] w fun e w' => e = .returned (.tuple #[.int .i64 (k : Int), .bool true]) ∧ HoldA w0 w' (Grow F w w') pa pm (mk n (k + 1) (put0 f k) (t + 1)) ∧ Kept F w w' := by
  refine (takeAH h (by show t ≤ _; omega)).mono ?_
  rw [mk_next hk, mk_take hk]
  rintro e w1 ⟨rfl, h1, k1⟩
  exact ⟨by simp, h1, k1⟩
theorem takeI_no (h : HoldA w0 w F pa pm (mk n n f t)) (ht : t ≤ 900000) : Calls Try.prog 13 #[.pointer (some ⟨pa, 0, none⟩)] w fun e w' => e = .returned (.tuple #[.int .i64 (-1), .bool false]) ∧ HoldA w0 w' (Grow F w w') pa pm (mk n n f (t + 1)) ∧ Kept F w w' := by
  refine (takeAH h (by show t ≤ _; omega)).mono ?_
  rw [mk_next_no, mk_take_no]
  rintro e w1 ⟨rfl, h1, k1⟩
  exact ⟨by simp, h1, k1⟩
theorem setI {c : Nat} (j : Nat) (v : Int) (h : HoldA w0 w F pa pm (mk n k f t)) (ht : t ≤ 900000) (hc : c < k) (hj : j ≤ 9) : Calls Try.prog 22 #[.pointer (some ⟨pa, 0, none⟩), .int .i64 (c : Int), .int .i64 (j : Int), .int .i64 v] w fun e w' => e = .returned (.bool true) ∧ HoldA w0 w' F pa pm (mk n k (put f c j v) (t + 1)) ∧ Kept F w w' := by
  refine (setAH (c : Int) (j : Int) v h (by show t ≤ _; omega)).mono ?_
  rw [mk_may hc hj, mk_set hc hj]
  exact fun _ _ q => q
theorem getI {c : Nat} (j : Nat) (h : HoldA w0 w F pa pm (mk n k f t)) (ht : t ≤ 900000) (hc : c < k) (hj : j ≤ 9) : Calls Try.prog 23 #[.pointer (some ⟨pa, 0, none⟩), .int .i64 (c : Int), .int .i64 (j : Int)] w fun e w' => e = .returned (.int .i64 (f c j)) ∧ HoldA w0 w' F pa pm (mk n k f (t + 1)) ∧ Kept F w w' := by
  refine (getAH (c : Int) (j : Int) h (by show t ≤ _; omega)).mono ?_
  rw [mk_get hc hj]
  exact fun _ _ q => q
theorem cellI {c d : Nat} (j : Nat) (h : HoldA w0 w F pa pm (mk n k f t)) (ht : t ≤ 900000) (hc : c < k) (hj : j ≤ 9) (he : f c j = (d : Int)) (hd : d < n) : Calls Try.prog 18 #[.pointer (some ⟨pa, 0, none⟩), .int .i64 (c : Int), .int .i64 (j : Int)] w fun e w' => e = .returned (.int .i64 (d : Int)) ∧ HoldA w0 w' F pa pm (mk n k f (t + 1)) ∧ Kept F w w' := by
  refine (cellAH (c : Int) (j : Int) h (by show t ≤ _; omega)).mono ?_
  rw [mk_cell hc hj he hd]
  exact fun _ _ q => q
theorem cellI_no {c : Nat} (j : Nat) (h : HoldA w0 w F pa pm (mk n k f t)) (ht : t ≤ 900000) (hc : c < k) (hj : j ≤ 9) (he : f c j = -1) : Calls Try.prog 18 #[.pointer (some ⟨pa, 0, none⟩), .int .i64 (c : Int), .int .i64 (j : Int)] w fun e w' => e = .returned (.int .i64 (-1)) ∧ HoldA w0 w' F pa pm (mk n k f (t + 1)) ∧ Kept F w w' := by
  refine (cellAH (c : Int) (j : Int) h (by show t ≤ _; omega)).mono ?_
  rw [mk_cell_no hc hj he]
  exact fun _ _ q => q
theorem liveI {c : Nat} (h : HoldA w0 w F pa pm (mk n k f t)) (hc : c < k) : Calls Try.prog 29 #[.pointer (some ⟨pa, 0, none⟩), .int .i64 (c : Int)] w fun e w' => e = .returned (.bool true) ∧ w' = w := by
  have := liveA pa pm (mk n k f t) F (c : Int) w h.is
  rwa [mk_live hc] at this

set_option maxHeartbeats 1000000 in
theorem newI (key serial : Int) (h : HoldA w0 w F pa pm (mk n k f t)) (ht : t ≤ 800000) (hk : k < n) :
    Calls Try.prog 10 #[.pointer (some ⟨pa, 0, none⟩), .int .i64 key, .int .i64 serial] w fun e w' => e = .returned (.tuple #[.int .i64 (k : Int), .bool true]) ∧ HoldA w0 w' (Grow F w w') pa pm (mk n (k + 1) (put (put (put0 f k) k 7 key) k 8 serial) (t + 3)) ∧ Kept F w w' := by
  have HH := hid h
  clear h
  go_enter Try.func10, Try.ntmps10
  go_wp2_with fail
  refine (takeI HH.out (by omega) hk).mono ?_
  rintro e w1 ⟨rfl, h1, k1⟩
  have H1 := hid h1
  have K1 := hid k1
  clear h1 k1
  go_wp2_with fail
  refine (setI 7 key H1.out (by omega) (c := k) (by omega) (by decide)).mono ?_
  rintro e w2 ⟨rfl, h2, k2⟩
  have H2 := hid h2
  have K2 := hid (K1.out.trans k2)
  have S2 := hid k2.size
  clear h2 k2 H1
  go_wp2_with fail
  refine (setI 8 serial H2.out (by omega) (c := k) (by omega) (by decide)).mono ?_
  rintro e w3 ⟨rfl, h3, k3⟩
  have H3 := hid h3
  have K3 := hid (K2.out.trans (k3.mono fun i hi => hi.elim Or.inl fun q => Or.inr ⟨q.1, by have := S2.out; omega⟩))
  have S3 := hid k3.size
  clear h3 k3 H2
  go_wp2
  go_ret2
  refine ⟨rfl, ?_, K3.out⟩
  have hg : ∀ i, Grow F w w1 i → Grow F w w3 i := fun i hi => hi.elim Or.inl fun q => Or.inr ⟨q.1, by have := S2.out; have := S3.out; omega⟩
  exact ⟨H3.out.is.widen hg (Grow.lt HH.out.is.lt K3.out.size), fun i e => e.elim (HH.out.new i) fun e => Nat.le_trans HH.out.bel.size e.1, H3.out.bel⟩

set_option maxHeartbeats 1000000 in
theorem newI_no (key serial : Int) (h : HoldA w0 w F pa pm (mk n n f t)) (ht : t ≤ 800000) :
    Calls Try.prog 10 #[.pointer (some ⟨pa, 0, none⟩), .int .i64 key, .int .i64 serial] w fun e w' => e = .returned (.tuple #[.int .i64 (-1), .bool false]) ∧ HoldA w0 w' (Grow F w w') pa pm (mk n n f (t + 1)) ∧ Kept F w w' := by
  have HH := hid h
  clear h
  go_enter Try.func10, Try.ntmps10
  go_wp2_with fail
  refine (takeI_no HH.out (by omega)).mono ?_
  rintro e w1 ⟨rfl, h1, k1⟩
  have H1 := hid h1
  have K1 := hid k1
  clear h1 k1
  go_wp2
  go_ret2
  exact ⟨rfl, H1.out, K1.out⟩

set_option maxHeartbeats 1000000 in
theorem nodeI {c d : Nat} (h : HoldA w0 w F pa pm (mk n k f t)) (ht : t ≤ 800000) (hc : c < k) (he : f c 9 = (d : Int)) (hd : d < n) :
    Calls Try.prog 11 #[.pointer (some ⟨pa, 0, none⟩), .int .i64 (c : Int)] w fun e w' => e = .returned (.int .i64 (d : Int)) ∧ HoldA w0 w' F pa pm (mk n k f (t + 1)) ∧ Kept F w w' := by
  have C := hid (cellI 9 h (by omega) hc (by decide) he hd)
  clear h he
  go_enter Try.func11, Try.ntmps11
  go_wp2_with fail
  refine C.out.mono ?_
  rintro e w1 ⟨rfl, h1, k1⟩
  have H1 := hid h1
  have K1 := hid k1
  clear h1 k1
  go_wp2
  go_ret
  exact ⟨rfl, H1.out, K1.out⟩
set_option maxHeartbeats 1000000 in
theorem nodeI_no {c : Nat} (h : HoldA w0 w F pa pm (mk n k f t)) (ht : t ≤ 800000) (hc : c < k) (he : f c 9 = -1) :
    Calls Try.prog 11 #[.pointer (some ⟨pa, 0, none⟩), .int .i64 (c : Int)] w fun e w' => e = .returned (.int .i64 (-1)) ∧ HoldA w0 w' F pa pm (mk n k f (t + 1)) ∧ Kept F w w' := by
  have C := hid (cellI_no 9 h (by omega) hc (by decide) he)
  clear h he
  go_enter Try.func11, Try.ntmps11
  go_wp2_with fail
  refine C.out.mono ?_
  rintro e w1 ⟨rfl, h1, k1⟩
  have H1 := hid h1
  have K1 := hid k1
  clear h1 k1
  go_wp2
  go_ret
  exact ⟨rfl, H1.out, K1.out⟩

set_option maxHeartbeats 1000000 in
theorem lowerI {c : Nat} (key : Int) (h : HoldA w0 w F pa pm (mk n k f t)) (ht : t ≤ 800000) (hc : c < k) :
    Calls Try.prog 12 #[.pointer (some ⟨pa, 0, none⟩), .int .i64 (c : Int), .int .i64 key] w fun e w' => e = .returned (.bool (decide (key ≤ f c 7))) ∧ (∃ t', t' ≤ t + 2 ∧ HoldA w0 w' F pa pm (mk n k (if key ≤ f c 7 then put f c 7 key else f) t')) ∧ Kept F w w' := by
  have G := hid (getI 7 h (by omega) hc (by decide))
  clear h
  by_cases q : key ≤ f c 7
  · rw [if_pos q]
    have Q := hid q
    obtain ⟨x, hx⟩ : ∃ x, f c 7 = x := ⟨_, rfl⟩
    have HX := hid hx
    rw [hx] at q G ⊢
    clear hx
    have q' : decide (x < key) = false := by simp; omega
    go_enter Try.func12, Try.ntmps12
    go_wp2_with fail
    refine G.out.mono ?_
    rintro e w1 ⟨rfl, h1, k1⟩
    have H1 := hid h1
    have K1 := hid k1
    clear h1 k1
    go_wp2_with fail
    refine (setI 7 key H1.out (by omega) hc (by decide)).mono ?_
    rintro e w2 ⟨rfl, h2, k2⟩
    have H2 := hid h2
    have K2 := hid (K1.out.trans' k2)
    clear h2 k2
    go_wp2
    go_ret
    exact ⟨ret_bool (by simp [q]), ⟨_, Nat.le_refl _, H2.out⟩, K2.out⟩
  · rw [if_neg q]
    have Q := hid q
    obtain ⟨x, hx⟩ : ∃ x, f c 7 = x := ⟨_, rfl⟩
    rw [hx] at q G ⊢
    clear hx
    have q' : x < key := by omega
    go_enter Try.func12, Try.ntmps12
    go_wp2_with fail
    refine G.out.mono ?_
    rintro e w1 ⟨rfl, h1, k1⟩
    have H1 := hid h1
    have K1 := hid k1
    clear h1 k1
    go_wp2
    go_ret
    exact ⟨ret_bool (by simp; omega), ⟨t + 1, by omega, H1.out⟩, K1.out⟩

set_option maxHeartbeats 1000000 in
theorem entryI {c : Nat} (h : HoldA w0 w F pa pm (mk n k f t)) (ht : t ≤ 800000) (hc : c < k) :
    Calls Try.prog 17 #[.pointer (some ⟨pa, 0, none⟩), .int .i64 (c : Int)] w fun e w' => e = .returned (.agg #[.int .i64 (f c 7), .int .i64 (f c 8)]) ∧ HoldA w0 w' F pa pm (mk n k f (t + 2)) ∧ Kept F w w' := by
  obtain ⟨b, hb⟩ : ∃ b, b = w.heap.size := ⟨_, rfl⟩
  have HA := hid (h.plain ((Kept.refl _ _).alloc (.cells #[.int .i64 0, .int .i64 0] 24)))
  have KA := hid (((Kept.refl F w).alloc (.cells #[.int .i64 0, .int .i64 0] 24)))
  have hbF : ¬ F b := fun e => by have := h.is.lt b e; omega
  have BA := hid (show (w.alloc (.cells #[.int .i64 0, .int .i64 0] 24)).heap[b]? = some (.cells #[.int .i64 0, .int .i64 0] 24) by rw [hb]; exact heap_alloc_new w (.cells #[.int .i64 0, .int .i64 0] 24))
  have BS := hid (show b < (w.alloc (.cells #[.int .i64 0, .int .i64 0] 24)).heap.size by rw [hb]; simp)
  have HB := hid hb
  have W0 := hid h.bel.size
  have hbw : w.heap.size = b := hb.symm
  clear h hb
  go_enter Try.func17, Try.ntmps17
  go_wp2_with fail
  refine (getI 7 HA.out (by omega) hc (by decide)).mono ?_
  rintro e w1 ⟨rfl, h1, k1⟩
  have H1 := hid h1
  have K1 := hid (KA.out.trans' k1)
  have B1 := hid ((k1.block b BS.out hbF).trans BA.out)
  have S1 := hid (Nat.lt_of_lt_of_le BS.out k1.size)
  clear h1 k1 HA BA BS KA
  go_wp2_with fail
  refine (getI 8 H1.out (by omega) hc (by decide)).mono ?_
  rintro e w2 ⟨rfl, h2, k2⟩
  have H2 := hid h2
  have K2 := hid (K1.out.trans' k2)
  have hb2 := (k2.block b S1.out hbF).trans B1.out
  have hs2 : b < w2.heap.size := Nat.lt_of_lt_of_le S1.out k2.size
  have B2 := hid hb2
  have c0 : w2.cell? ⟨b, 0, none⟩ = some (.int .i64 0) := by simp [World.cell?, hb2]
  have c1 : w2.cell? ⟨b, 1, none⟩ = some (.int .i64 0) := by simp [World.cell?, hb2]
  have f0 : w2.frozen? ⟨b, 0, none⟩ = false := blk_free hb2
  have f1 : w2.frozen? ⟨b, 1, none⟩ = false := blk_free hb2
  clear h2 k2 H1 B1 S1 K1 hb2
  clear hbw
  go_wp2
  have b1 := blk_set (j := 0) (u := .int .i64 (f c 7)) B2.out
  have b2 := blk_set (j := 1) (u := .int .i64 (f c 8)) b1
  refine bodyPost_ret (v := .agg #[.int .i64 (f c 7), .int .i64 (f c 8)]) (results_cell_row rfl _ _ b 24 #[.int .i64 (f c 7), .int .i64 (f c 8)] _ _ rfl (by simpa using b2) Try.underlying24 rfl (by kernel_rfl)) rfl ?_
  have kk : Kept (fun k => k = b) w2 ((w2.setCell ⟨b, 0, none⟩ (.int .i64 (f c 7))).setCell ⟨b, 1, none⟩ (.int .i64 (f c 8))) := ((Kept.refl (fun k => k = b) w2).setCell (p := ⟨b, 0, none⟩) (Or.inl rfl) _).setCell (p := ⟨b, 1, none⟩) (Or.inl rfl) _
  exact ⟨rfl, H2.out.other kk (fun k hk => by rw [hk, HB.out]; exact W0.out) (fun k hF hk => hbF (hk ▸ hF)), (K2.out.setCell (p := ⟨b, 0, none⟩) (Or.inr (by rw [HB.out]; exact Nat.le_refl _)) _).setCell (p := ⟨b, 1, none⟩) (Or.inr (by rw [HB.out]; exact Nat.le_refl _)) _⟩
end
end Go.Proofs.Ytonflgkfbhndbaa
