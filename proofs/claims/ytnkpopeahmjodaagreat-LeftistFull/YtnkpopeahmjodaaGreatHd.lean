/- The arena, as a call's own: what stays true from step to step. -/
import Derived.Test.YtnkpopeahmjodaaGreatTk
namespace Go.Proofs.YtnkpopeahmjodaaGreat
open Go.ChangeShapes Go.WideShapes Go.ChangeAt Go.RowKit

/-- since w0 nothing old has turned, and the arena lies in what is new -/
structure HoldA (w0 w : World) (F : Nat → Prop) (pa pm : Nat) (s : St) : Prop where
  is : IsA w F pa pm s
  new : ∀ k, F k → w0.heap.size ≤ k
  bel : Below w0.heap.size w0 w

section
variable {w0 w w' : World} {F G : Nat → Prop} {pa pm : Nat} {s s' : St}
theorem HoldA.call (h : HoldA w0 w F pa pm s) (hi : IsA w' (Grow F w w') pa pm s') (hk : Kept F w w') : HoldA w0 w' (Grow F w w') pa pm s' :=
  ⟨hi, fun k e => e.elim (h.new k) fun e => Nat.le_trans h.bel.size e.1, h.bel.trans (hk.below h.bel.size h.new)⟩
theorem HoldA.stay (h : HoldA w0 w F pa pm s) (hi : IsA w' F pa pm s') (hk : Kept F w w') : HoldA w0 w' F pa pm s' :=
  ⟨hi, h.new, h.bel.trans (hk.below h.bel.size h.new)⟩
theorem HoldA.plain (h : HoldA w0 w F pa pm s) (hk : Kept (fun _ => False) w w') : HoldA w0 w' F pa pm s :=
  ⟨h.is.kept hk (fun _ _ e => e), h.new, h.bel.trans (hk.below h.bel.size fun _ e => e.elim)⟩
theorem HoldA.other (h : HoldA w0 w F pa pm s) (hk : Kept G w w') (hG : ∀ k, G k → w0.heap.size ≤ k) (hd : ∀ k, F k → ¬ G k) : HoldA w0 w' F pa pm s :=
  ⟨h.is.kept hk hd, h.new, h.bel.trans (hk.below h.bel.size hG)⟩
theorem HoldA.drewN (h : HoldA w0 w F pa pm s) (n : Nat) : HoldA w0 (w.drewN n) F pa pm s := h.plain ((Kept.refl _ _).drewN n)

theorem newAH (n : Int) (w : World) : Calls Tryz.prog 16 #[.int .i64 n] w fun e w' => ∃ F pa pm, e = .returned (.pointer (some ⟨pa, 0, none⟩)) ∧ HoldA w w' F pa pm (st0 n) :=
  (newA n w).mono fun _ _ ⟨F, pa, pm, h1, h2, h3, h4⟩ => ⟨F, pa, pm, h1, h2, h3, h4⟩
theorem takeAH (h : HoldA w0 w F pa pm s) (hs : s.steps ≤ 100000000) : Calls Tryz.prog 52 #[.pointer (some ⟨pa, 0, none⟩)] w fun e w' => e = .returned (.tuple #[.int .i64 (nextS s), .bool (decide (0 ≤ nextS s))]) ∧ HoldA w0 w' (Grow F w w') pa pm (takeS s) ∧ Kept F w w' :=
  (takeA pa pm s F w h.is hs).mono fun _ _ ⟨h1, h2, h3⟩ => ⟨h1, h.call h2 h3, h3⟩
theorem giveAH (c : Int) (h : HoldA w0 w F pa pm s) (hs : s.steps ≤ 100000000) : Calls Tryz.prog 25 #[.pointer (some ⟨pa, 0, none⟩), .int .i64 c] w fun e w' => e = .returned (.bool (liveS s c)) ∧ HoldA w0 w' (Grow F w w') pa pm (giveS s c) ∧ Kept F w w' :=
  (giveA pa pm s F c w h.is hs).mono fun _ _ ⟨h1, h2, h3⟩ => ⟨h1, h.call h2 h3, h3⟩
theorem getAH (c f : Int) (h : HoldA w0 w F pa pm s) (hs : s.steps ≤ 100000000) : Calls Tryz.prog 57 #[.pointer (some ⟨pa, 0, none⟩), .int .i64 c, .int .i64 f] w fun e w' => e = .returned (.int .i64 (getS s c f)) ∧ HoldA w0 w' F pa pm (tick s) ∧ Kept F w w' :=
  (getA pa pm s F c f w h.is hs).mono fun _ _ ⟨h1, h2, h3⟩ => ⟨h1, h.stay h2 h3, h3⟩
theorem cellAH (c f : Int) (h : HoldA w0 w F pa pm s) (hs : s.steps ≤ 100000000) : Calls Tryz.prog 44 #[.pointer (some ⟨pa, 0, none⟩), .int .i64 c, .int .i64 f] w fun e w' => e = .returned (.int .i64 (cellS s c f)) ∧ HoldA w0 w' F pa pm (tick s) ∧ Kept F w w' :=
  (cellA pa pm s F c f w h.is hs).mono fun _ _ ⟨h1, h2, h3⟩ => ⟨h1, h.stay h2 h3, h3⟩
theorem setAH (c f v : Int) (h : HoldA w0 w F pa pm s) (hs : s.steps ≤ 100000000) : Calls Tryz.prog 53 #[.pointer (some ⟨pa, 0, none⟩), .int .i64 c, .int .i64 f, .int .i64 v] w fun e w' => e = .returned (.bool (mayS s c f)) ∧ HoldA w0 w' F pa pm (setS s c f v) ∧ Kept F w w' :=
  (setA pa pm s F c f v w h.is hs).mono fun _ _ ⟨h1, h2, h3⟩ => ⟨h1, h.stay h2 h3, h3⟩
end

def I64 (x : Int) : Prop := -9223372036854775808 ≤ x ∧ x ≤ 9223372036854775807
theorem i64_of_wf {x : Int} (h : (Lit.int .i64 x).wf = true) : I64 x := by
  simp [Lit.wf, IntKind.min, IntKind.max, IntKind.signed, IntKind.bits] at h
  exact ⟨by omega, by omega⟩

theorem tmod_bounds (n : Int) {k : Int} (hk : 0 < k) : -k < n.tmod k ∧ n.tmod k < k := by
  constructor
  · have h2 := Int.lt_tmod_of_pos n hk; omega
  · exact Int.tmod_lt_of_pos n hk

set_option maxHeartbeats 1000000 in
theorem within_any (n : Int) (hn : I64 n) (lo hi : Int) (hl0 : -1000 ≤ lo) (hlh : lo ≤ hi) (hh : hi ≤ 1000) (w : World) :
    Calls Tryz.prog 8 #[.int .i64 n, .int .i64 lo, .int .i64 hi] w fun e w' => ∃ r : Int, e = .returned (.int .i64 r) ∧ lo ≤ r ∧ r ≤ hi ∧ w' = w := by
  obtain ⟨h1, h2⟩ := hn
  by_cases c1 : lo ≤ n
  · by_cases c2 : n ≤ hi
    · go_enter Tryz.func8, Tryz.ntmps8
      go_wp2
      go_ret
      exact ⟨n, rfl, by omega, by omega, rfl⟩
    · obtain ⟨d, hd⟩ : ∃ d : Nat, hi - lo = d := ⟨(hi - lo).toNat, by omega⟩
      have hwd : IntKind.i64.wrap ((d : Int) + 1) = (d : Int) + 1 := IntWalk.i64_in _ (by omega)
      have hne : ¬ ((d : Int) + 1 = 0) := by omega
      obtain ⟨t1, t2⟩ := tmod_bounds n (k := (d : Int) + 1) (by omega)
      have HD := hid hd
      have c2' : decide (n ≤ hi) = false := by simp; omega
      obtain ⟨t, ht⟩ : ∃ t : Int, n.tmod ((d : Int) + 1) = t := ⟨_, rfl⟩
      rw [ht] at t1 t2
      by_cases c3 : t < 0
      · go_enter Tryz.func8, Tryz.ntmps8
        go_wp2
        go_ret
        exact ⟨_, rfl, by omega, by omega, rfl⟩
      · have c3' : decide (t < 0) = false := by simp; omega
        go_enter Tryz.func8, Tryz.ntmps8
        go_wp2
        go_ret
        exact ⟨_, rfl, by omega, by omega, rfl⟩
  · obtain ⟨d, hd⟩ : ∃ d : Nat, hi - lo = d := ⟨(hi - lo).toNat, by omega⟩
    have hwd : IntKind.i64.wrap ((d : Int) + 1) = (d : Int) + 1 := IntWalk.i64_in _ (by omega)
    have hne : ¬ ((d : Int) + 1 = 0) := by omega
    obtain ⟨t1, t2⟩ := tmod_bounds n (k := (d : Int) + 1) (by omega)
    have c1' : decide (lo ≤ n) = false := by simp; omega
    obtain ⟨t, ht⟩ : ∃ t : Int, n.tmod ((d : Int) + 1) = t := ⟨_, rfl⟩
    rw [ht] at t1 t2
    by_cases c3 : t < 0
    · go_enter Tryz.func8, Tryz.ntmps8
      go_wp2
      go_ret
      exact ⟨_, rfl, by omega, by omega, rfl⟩
    · have c3' : decide (t < 0) = false := by simp; omega
      go_enter Tryz.func8, Tryz.ntmps8
      go_wp2
      go_ret
      exact ⟨_, rfl, by omega, by omega, rfl⟩

end Go.Proofs.YtnkpopeahmjodaaGreat
