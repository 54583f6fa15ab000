/- The arena, as a call's own: what stays true from step to step. -/
import Derived.Test.YtokmefgdbklepaaTk
namespace Go.Proofs.Ytokmefgdbklepaa
open Go.ChangeShapes Go.WideShapes Go.ChangeAt Go.RowKit

/-- since w0 nothing old has turned, and the arena lies in what is new -/
structure HoldA (w0 w : World) (F : Nat → Prop) (pa pm : Nat) (s : St) : Prop where
  is : IsA w F pa pm s
  new : ∀ k, F k → w0.heap.size ≤ k
  bel : Below w0.heap.size w0 w

section
variable {w0 w w' : World} {F G : Nat → Prop} {pa pm : Nat} {s s' : St}
theorem HoldA.call (h : HoldA w0 w F pa pm s) (hi : IsA w' (Grow F w w') pa pm s') (hk : Kept F w w') : HoldA w0 w' (Grow F w w') pa pm s' :=
  ⟨hi, fun k e => e.elim (h.new k) fun e => Nat.le_trans h.bel.size e.1, h.bel.trans (hk.below h.bel.size h.new)⟩
theorem HoldA.stay (h : HoldA w0 w F pa pm s) (hi : IsA w' F pa pm s') (hk : Kept F w w') : HoldA w0 w' F pa pm s' :=
  ⟨hi, h.new, h.bel.trans (hk.below h.bel.size h.new)⟩
theorem HoldA.plain (h : HoldA w0 w F pa pm s) (hk : Kept (fun _ => False) w w') : HoldA w0 w' F pa pm s :=
  ⟨h.is.kept hk (fun _ _ e => e), h.new, h.bel.trans (hk.below h.bel.size fun _ e => e.elim)⟩
theorem HoldA.other (h : HoldA w0 w F pa pm s) (hk : Kept G w w') (hG : ∀ k, G k → w0.heap.size ≤ k) (hd : ∀ k, F k → ¬ G k) : HoldA w0 w' F pa pm s :=
  ⟨h.is.kept hk hd, h.new, h.bel.trans (hk.below h.bel.size hG)⟩
theorem HoldA.drewN (h : HoldA w0 w F pa pm s) (n : Nat) : HoldA w0 (w.drewN n) F pa pm s := h.plain ((Kept.refl _ _).drewN n)

theorem newAH (n : Int) (w : World) : Calls Try.prog 8 #[.int .i64 n] w fun e w' => ∃ F pa pm, e = .returned (.pointer (some ⟨pa, 0, none⟩)) ∧ HoldA w w' F pa pm (st0 n) :=
  (newA n w).mono fun _ _ ⟨F, pa, pm, h1, h2, h3, h4⟩ => ⟨F, pa, pm, h1, h2, h3, h4⟩
theorem takeAH (h : HoldA w0 w F pa pm s) (hs : s.steps ≤ 1000000) : Calls Try.prog 14 #[.pointer (some ⟨pa, 0, none⟩)] w fun e w' => e = .returned (.tuple #[.int .i64 (nextS s), .bool (decide (0 ≤ nextS s))]) ∧ HoldA w0 w' (Grow F w w') pa pm (takeS s) ∧ Kept F w w' :=
  (takeA pa pm s F w h.is hs).mono fun _ _ ⟨h1, h2, h3⟩ => ⟨h1, h.call h2 h3, h3⟩
theorem giveAH (c : Int) (h : HoldA w0 w F pa pm s) (hs : s.steps ≤ 1000000) : Calls Try.prog 13 #[.pointer (some ⟨pa, 0, none⟩), .int .i64 c] w fun e w' => e = .returned (.bool (liveS s c)) ∧ HoldA w0 w' (Grow F w w') pa pm (giveS s c) ∧ Kept F w w' :=
  (giveA pa pm s F c w h.is hs).mono fun _ _ ⟨h1, h2, h3⟩ => ⟨h1, h.call h2 h3, h3⟩
theorem getAH (c f : Int) (h : HoldA w0 w F pa pm s) (hs : s.steps ≤ 1000000) : Calls Try.prog 15 #[.pointer (some ⟨pa, 0, none⟩), .int .i64 c, .int .i64 f] w fun e w' => e = .returned (.int .i64 (getS s c f)) ∧ HoldA w0 w' F pa pm (tick s) ∧ Kept F w w' :=
  (getA pa pm s F c f w h.is hs).mono fun _ _ ⟨h1, h2, h3⟩ => ⟨h1, h.stay h2 h3, h3⟩
theorem cellAH (c f : Int) (h : HoldA w0 w F pa pm s) (hs : s.steps ≤ 1000000) : Calls Try.prog 21 #[.pointer (some ⟨pa, 0, none⟩), .int .i64 c, .int .i64 f] w fun e w' => e = .returned (.int .i64 (cellS s c f)) ∧ HoldA w0 w' F pa pm (tick s) ∧ Kept F w w' :=
  (cellA pa pm s F c f w h.is hs).mono fun _ _ ⟨h1, h2, h3⟩ => ⟨h1, h.stay h2 h3, h3⟩
theorem setAH (c f v : Int) (h : HoldA w0 w F pa pm s) (hs : s.steps ≤ 1000000) : Calls Try.prog 16 #[.pointer (some ⟨pa, 0, none⟩), .int .i64 c, .int .i64 f, .int .i64 v] w fun e w' => e = .returned (.bool (mayS s c f)) ∧ HoldA w0 w' F pa pm (setS s c f v) ∧ Kept F w w' :=
  (setA pa pm s F c f v w h.is hs).mono fun _ _ ⟨h1, h2, h3⟩ => ⟨h1, h.stay h2 h3, h3⟩
end

def I64 (x : Int) : Prop := -9223372036854775808 ≤ x ∧ x ≤ 9223372036854775807
theorem i64_of_wf {x : Int} (h : (Lit.int .i64 x).wf = true) : I64 x := by
  simp [Lit.wf, IntKind.min, IntKind.max, IntKind.signed, IntKind.bits] at h
  exact ⟨by omega, by omega⟩

theorem tmod_bounds (n : Int) {k : Int} (hk : 0 < k) : -k < n.tmod k ∧ n.tmod k < k := by
  constructor
  · have h2 := Int.lt_tmod_of_pos n hk; omega
  · exact Int.tmod_lt_of_pos n hk

set_option maxHeartbeats 1000000 in
theorem within_any (n : Int) (hn : I64 n) (lo hi : Int) (hl0 : -1000 ≤ lo) (hlh : lo ≤ hi) (hh : hi ≤ 1000) (w : World) :
    Calls Try.prog 11 #[.int .i64 n, .int .i64 lo, .int .i64 hi] w fun e w' => ∃ r : Int, e = .returned (.int .i64 r) ∧ lo ≤ r ∧ r ≤ hi ∧ w' = w := by
  obtain ⟨h1, h2⟩ := hn
  by_cases c1 : lo ≤ n
  · by_cases c2 : n ≤ hi
    · go_enter Try.func11, Try.ntmps11
      go_wp2
      go_ret
      exact ⟨n, rfl, by omega, by omega, rfl⟩
    · obtain ⟨d, hd⟩ : ∃ d : Nat, hi - lo = d := ⟨(hi - lo).toNat, by omega⟩
      have hwd : IntKind.i64.wrap ((d : Int) + 1) = (d : Int) + 1 := IntWalk.i64_in _ (by omega)
      have hne : ¬ ((d : Int) + 1 = 0) := by omega
      obtain ⟨t1, t2⟩ := tmod_bounds n (k := (d : Int) + 1) (by omega)
      have HD := hid hd
      have c2' : decide (n ≤ hi) = false := by simp; omega
      obtain ⟨t, ht⟩ : ∃ t : Int, n.tmod ((d : Int) + 1) = t := ⟨_, rfl⟩
      rw [ht] at t1 t2
      by_cases c3 : t < 0
      · go_enter Try.func11, Try.ntmps11
        go_wp2
        go_ret
        exact ⟨_, rfl, by omega, by omega, rfl⟩
      · have c3' : decide (t < 0) = false := by simp; omega
        go_enter Try.func11, Try.ntmps11
        go_wp2
        go_ret
        exact ⟨_, rfl, by omega, by omega, rfl⟩
  · obtain ⟨d, hd⟩ : ∃ d : Nat, hi - lo = d := ⟨(hi - lo).toNat, by omega⟩
    have hwd : IntKind.i64.wrap ((d : Int) + 1) = (d : Int) + 1 := IntWalk.i64_in _ (by omega)
    have hne : ¬ ((d : Int) + 1 = 0) := by omega
    obtain ⟨t1, t2⟩ := tmod_bounds n (k := (d : Int) + 1) (by omega)
    have c1' : decide (lo ≤ n) = false := by simp; omega
    obtain ⟨t, ht⟩ : ∃ t : Int, n.tmod ((d : Int) + 1) = t := ⟨_, rfl⟩
    rw [ht] at t1 t2
    by_cases c3 : t < 0
    · go_enter Try.func11, Try.ntmps11
      go_wp2
      go_ret
      exact ⟨_, rfl, by omega, by omega, rfl⟩
    · have c3' : decide (t < 0) = false := by simp; omega
      go_enter Try.func11, Try.ntmps11
      go_wp2
      go_ret
      exact ⟨_, rfl, by omega, by omega, rfl⟩

set_option maxHeartbeats 2000000 in
theorem known_any (w : World) : Calls Try.prog 10 #[] w fun e w' => e = .returned (.bool true) ∧ Below w.heap.size w w' := by
  go_enter Try.func10, Try.ntmps10
  go_wp2_with fail
  refine (newAH 2 w).mono ?_
  rintro e w1 ⟨F, pa, pm, rfl, h1⟩
  rw [show st0 2 = ⟨2, [], [], 0⟩ from rfl] at h1
  have H1 := hid h1
  clear h1
  go_wp2_with fail
  refine (meterA pa pm _ F w1 H1.out.is).mono ?_
  rintro e w2 ⟨rfl, rfl⟩
  go_wp2_with fail
  refine (takeAH H1.out (by decide)).mono ?_
  rw [show nextS ⟨2, [], [], 0⟩ = 0 from rfl, show takeS ⟨2, [], [], 0⟩ = ⟨2, [(fr, true)], [], 1⟩ from rfl]
  rintro e w3 ⟨rfl, h3, -⟩
  generalize Grow F w2 w3 = F3 at h3
  have H3 := hid h3
  clear h3 H1
  go_wp2_with fail
  refine (takeAH H3.out (by decide)).mono ?_
  rw [show nextS ⟨2, [(fr, true)], [], 1⟩ = 1 from rfl, show takeS ⟨2, [(fr, true)], [], 1⟩ = ⟨2, [(fr, true), (fr, true)], [], 2⟩ from rfl]
  rintro e w4 ⟨rfl, h4, -⟩
  generalize Grow F3 w3 w4 = F4 at h4
  have H4 := hid h4
  clear h4 H3
  go_wp2_with fail
  refine (takeAH H4.out (by decide)).mono ?_
  rw [show nextS ⟨2, [(fr, true), (fr, true)], [], 2⟩ = -1 from rfl, show takeS ⟨2, [(fr, true), (fr, true)], [], 2⟩ = ⟨2, [(fr, true), (fr, true)], [], 3⟩ from rfl]
  rintro e w5 ⟨rfl, h5, -⟩
  generalize Grow F4 w4 w5 = F5 at h5
  have H5 := hid h5
  clear h5 H4
  go_wp2_with fail
  refine (getAH 0 0 H5.out (by decide)).mono ?_
  rw [show getS ⟨2, [(fr, true), (fr, true)], [], 3⟩ 0 0 = -1 from rfl, show tick ⟨2, [(fr, true), (fr, true)], [], 3⟩ = ⟨2, [(fr, true), (fr, true)], [], 4⟩ from rfl]
  rintro e w6 ⟨rfl, h6, -⟩
  have H6 := hid h6
  clear h6 H5
  go_wp2_with fail
  refine (getAH 0 7 H6.out (by decide)).mono ?_
  rw [show getS ⟨2, [(fr, true), (fr, true)], [], 4⟩ 0 7 = 0 from rfl, show tick ⟨2, [(fr, true), (fr, true)], [], 4⟩ = ⟨2, [(fr, true), (fr, true)], [], 5⟩ from rfl]
  rintro e w7 ⟨rfl, h7, -⟩
  have H7 := hid h7
  clear h7 H6
  go_wp2_with fail
  refine (giveAH 0 H7.out (by decide)).mono ?_
  rw [show liveS ⟨2, [(fr, true), (fr, true)], [], 5⟩ 0 = true from rfl, show giveS ⟨2, [(fr, true), (fr, true)], [], 5⟩ 0 = ⟨2, [(fr, false), (fr, true)], [0], 6⟩ from rfl]
  rintro e w8 ⟨rfl, h8, -⟩
  generalize Grow F5 w7 w8 = F8 at h8
  have H8 := hid h8
  clear h8 H7
  go_wp2_with fail
  refine (meterA pa pm _ F8 w8 H8.out.is).mono ?_
  rintro e w9 ⟨rfl, rfl⟩
  go_wp2_with fail
  refine (stepsA pa pm _ F8 w9 H8.out.is).mono ?_
  rintro e w10 ⟨rfl, rfl⟩
  go_wp2_with fail
  refine (lenA pa pm _ F8 w10 H8.out.is).mono ?_
  rintro e w11 ⟨rfl, n, rfl⟩
  rw [show cnt (St.pl ⟨2, [(fr, false), (fr, true)], [0], 6⟩) = 1 from rfl]
  have BL := hid H8.out.bel
  clear H8
  go_wp2
  go_ret
  exact ⟨rfl, below_drewN BL.out n⟩
end Go.Proofs.Ytokmefgdbklepaa
