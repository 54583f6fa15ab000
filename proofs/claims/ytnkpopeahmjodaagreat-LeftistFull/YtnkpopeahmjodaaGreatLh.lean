/- Leftist heaps: giveBack, remove, detach, Min, Pop, Meld as plain functions, and their walks. -/
import Derived.Test.YtnkpopeahmjodaaGreatLg
namespace Go.Proofs.YtnkpopeahmjodaaGreat
open Go.ChangeShapes Go.WideShapes Go.ChangeAt Go.RowKit

/-- giveBack -/
def gbS (s : St) (n : Int) : St := giveS (setS (tk s 1) (cellS s n 6) 9 (-1)) n
/-- remove, ahead of its meld -/
def rmS (s : St) (n : Int) : St := gbS (setS (setS (tk s 4) (lcS s n) 0 (-1)) (rcS s n) 0 (-1)) n
theorem gb_steps (s : St) (n : Int) : (gbS s n).steps = s.steps + 3 := by unfold gbS; rw [give_steps, set_steps]; rfl
theorem rm_steps (s : St) (n : Int) : (rmS s n).steps = s.steps + 9 := by unfold rmS; rw [gb_steps, set_steps, set_steps]; rfl
theorem give_most (s : St) (c : Int) : (giveS s c).most = s.most := by unfold giveS; split <;> rfl
theorem gb_most (s : St) (n : Int) : (gbS s n).most = s.most := by unfold gbS; rw [give_most, set_most]; rfl
theorem rm_most (s : St) (n : Int) : (rmS s n).most = s.most := by unfold rmS; rw [gb_most, set_most, set_most]; rfl
/-- one round of detach -/
def dtS (s : St) (up : Int) : St := leanS (tk s 4) up (lcS s up) (rcS s up)
def dtB (s : St) (up : Int) : Bool := leanB (tk s 4) up (lcS s up) (rcS s up)
/-- detach's rounds -/
def detS : Nat → St → Int → St
  | 0, s, _ => s
  | k + 1, s, up => if up = -1 then tk s 4 else if dtB s up = true then detS k (tk (dtS s up) 1) (cellS (dtS s up) up 0) else dtS s up
def dOk : Nat → St → Int → Prop
  | 0, _, _ => False
  | k + 1, s, up => up = -1 ∨ (rkS s (lcS s up) < 1000000 ∧ rkS s (rcS s up) < 1000000 ∧ (dtB s up = false ∨ dOk k (tk (dtS s up) 1) (cellS (dtS s up) up 0)))
theorem lk_most (s : St) (n f c : Int) : (lkS s n f c).most = s.most := by unfold lkS; rw [set_most, set_most]
theorem le_most (s : St) (n c d low : Int) : (leS s n c d low).most = s.most := by
  unfold leS; rw [set_most]; show (lkS _ _ _ _).most = _; rw [lk_most, lk_most]; rfl
theorem lean_most (s : St) (n c d : Int) : (leanS s n c d).most = s.most := by unfold leanS; split <;> exact le_most _ _ _ _ _
theorem dt_steps (s : St) (up : Int) : (dtS s up).steps = s.steps + 12 := by unfold dtS; rw [lean_steps]; rfl
theorem dt_most (s : St) (up : Int) : (dtS s up).most = s.most := by unfold dtS; rw [lean_most]; rfl
theorem det_steps : ∀ (k : Nat) (s : St) (up : Int), (detS k s up).steps ≤ s.steps + 13 * k
  | 0, s, up => by show s.steps ≤ _; omega
  | k + 1, s, up => by
    unfold detS
    split
    · show s.steps + 4 ≤ _; omega
    · split
      · have := det_steps k (tk (dtS s up) 1) (cellS (dtS s up) up 0)
        have e : (tk (dtS s up) 1).steps = s.steps + 12 + 1 := by show (dtS s up).steps + 1 = _; rw [dt_steps]
        omega
      · rw [dt_steps]; omega
theorem det_most : ∀ (k : Nat) (s : St) (up : Int), (detS k s up).most = s.most
  | 0, s, up => rfl
  | k + 1, s, up => by
    unfold detS
    split
    · rfl
    · split
      · rw [det_most]; exact dt_most s up
      · exact dt_most s up
theorem meld_most : ∀ (n : Nat) (s : St) (r t : Int), (meldS n s r t).2.most = s.most
  | 0, s, r, t => rfl
  | n + 1, s, r, t => by
    unfold meldS
    split
    · rfl
    · split
      · rfl
      · rw [lean_most, meld_most]; rfl

section
variable {F : Nat → Prop} {w0 w w' : World} {pa pm : Nat} {s s' : St}
set_option maxHeartbeats 1000000 in
theorem giveBackT (n : Int) (h : Aft F w0 w pa pm s) (hs : s.steps ≤ 99999900) :
    Calls Tryz.prog 61 #[.pointer (some ⟨pa, 0, none⟩), .int .i64 n] w fun e w' => e = .returned (.tuple #[]) ∧ Aft F w0 w' pa pm (gbS s n) := by
  have HH := hid h
  have C := hid (cellT n 6 h.ex (by omega))
  clear h
  obtain ⟨i, hi⟩ : ∃ i, i = cellS s n 6 := ⟨_, rfl⟩
  have Q := hid (show gbS s n = giveS (setS (tk s 1) i 9 (-1)) n by unfold gbS; rw [← hi])
  rw [← hi] at C
  clear hi
  go_enter Tryz.func61, Tryz.ntmps61
  go_wp2_with fail
  refine C.out.mono ?_
  rintro e w1 ⟨rfl, h1⟩
  have H1 := hid (HH.out.back h1)
  clear h1 HH C
  have S := hid (setT i 9 (-1) H1.out.ex (by show s.steps + 1 ≤ _; omega))
  generalize mayS (tk s 1) i 9 = m1 at S
  go_wp2_with fail
  refine S.out.mono ?_
  rintro e w2 ⟨rfl, h2⟩
  have H2 := hid (H1.out.back h2)
  clear h2 H1 S
  have G := hid (giveT n H2.out (by rw [set_steps]; show s.steps + 1 + 1 ≤ _; omega))
  generalize liveS (setS (tk s 1) i 9 (-1)) n = m2 at G
  go_wp2_with fail
  refine G.out.mono ?_
  rintro e w3 ⟨rfl, h3⟩
  have H3 := hid h3
  clear h3 H2 G
  go_wp2
  go_end0
  rw [Q.out]
  exact ⟨rfl, H3.out⟩

set_option maxHeartbeats 1000000 in
theorem removeT (k : Nat) (n : Int) (hok : mOk k (rmS s n) (lcS s n) (rcS s n)) (hm : s.most ≤ 65536) (h : Aft F w0 w pa pm s) (hs : s.steps + 18 * k ≤ 99990000) :
    Calls Tryz.prog 56 #[.pointer (some ⟨pa, 0, none⟩), .int .i64 n] w fun e w' => e = .returned (.int .i64 (meldS k (rmS s n) (lcS s n) (rcS s n)).1) ∧ Aft F w0 w' pa pm (meldS k (rmS s n) (lcS s n) (rcS s n)).2 := by
  have HH := hid h
  have C := hid (childrenT n h.ex (by omega))
  have OK := hid hok
  have C1 := hid (Cl.lc s n hm)
  have C2 := hid (Cl.rc s n hm)
  have Q := hid (show rmS s n = gbS (setS (setS (tk s 4) (lcS s n) 0 (-1)) (rcS s n) 0 (-1)) n from rfl)
  have ME := hid (show (rmS s n).most ≤ 65536 by rw [rm_most]; exact hm)
  have SE := hid (rm_steps s n)
  clear h hok hm
  generalize rmS s n = s9 at *
  generalize lcS s n = c at *
  generalize rcS s n = d at *
  go_enter Tryz.func56, Tryz.ntmps56
  go_wp2_with fail
  refine C.out.mono ?_
  rintro e w1 ⟨rfl, h1⟩
  have H1 := hid (HH.out.back h1)
  clear h1 HH C
  have S := hid (setT c 0 (-1) H1.out.ex (by show s.steps + 4 ≤ _; omega))
  generalize mayS (tk s 4) c 0 = m1 at S
  go_wp2_with fail
  refine S.out.mono ?_
  rintro e w2 ⟨rfl, h2⟩
  have H2 := hid (H1.out.back h2)
  clear h2 H1 S
  have S := hid (setT d 0 (-1) H2.out.ex (by rw [set_steps]; show s.steps + 4 + 1 ≤ _; omega))
  generalize mayS (setS (tk s 4) c 0 (-1)) d 0 = m2 at S
  go_wp2_with fail
  refine S.out.mono ?_
  rintro e w3 ⟨rfl, h3⟩
  have H3 := hid (H2.out.back h3)
  clear h3 H2 S
  go_wp2_with fail
  refine (giveBackT n H3.out (by rw [set_steps, set_steps]; show s.steps + 4 + 1 + 1 ≤ _; omega)).mono ?_
  rw [← Q.out]
  rintro e w4 ⟨rfl, h4⟩
  have H4 := hid h4
  clear h4 H3
  go_wp2_with fail
  refine (meldT k s9 c d _ _ OK.out C1.out C2.out ME.out H4.out.ex (by rw [SE.out]; omega)).mono ?_
  rintro e w5 ⟨rfl, h5⟩
  have H5 := hid (H4.out.back h5)
  clear h5 H4
  go_wp2
  go_ret
  exact ⟨rfl, H5.out⟩

set_option maxHeartbeats 1000000 in
theorem minT (r : Int) (h : Ex F w0 w pa pm s) (hs : s.steps ≤ 99999800) :
    Calls Tryz.prog 27 #[.pointer (some ⟨pa, 0, none⟩), .int .i64 r] w fun e w' => e = .returned (.int .i64 (cellS s (rootS s r) 6)) ∧ ∃ k, k ≤ 4 ∧ Ex F w0 w' pa pm (tk s k) := by
  have C := hid (rootT r h (by omega))
  clear h
  generalize rootS s r = x at *
  go_enter Tryz.func27, Tryz.ntmps27
  go_wp2_with fail
  refine C.out.mono ?_
  rintro e w1 ⟨rfl, k, hk, h1⟩
  have H1 := hid h1
  clear h1 C
  go_wp2_with fail
  refine (cellT x 6 H1.out (by show s.steps + k ≤ _; omega)).mono ?_
  rintro e w2 ⟨rfl, h2⟩
  have H2 := hid h2
  clear h2 H1
  go_wp2
  go_ret
  exact ⟨rfl, k + 1, by omega, H2.out⟩

set_option maxHeartbeats 1000000 in
theorem popT_none (r : Int) (hn : cellS s (rootS s r) 6 = -1) (h : Ex F w0 w pa pm s) (hs : s.steps ≤ 99999800) :
    Calls Tryz.prog 35 #[.pointer (some ⟨pa, 0, none⟩), .int .i64 r] w fun e w' => e = .returned (.tuple #[.int .i64 (-1), .int .i64 (-1)]) ∧ ∃ k, k ≤ 4 ∧ Ex F w0 w' pa pm (tk s k) := by
  have C := hid (minT r h (by omega))
  clear h
  rw [hn] at C
  clear hn
  go_enter Tryz.func35, Tryz.ntmps35
  go_wp2_with fail
  refine C.out.mono ?_
  rintro e w1 ⟨rfl, k, hk, h1⟩
  have H1 := hid h1
  clear h1 C
  go_wp2
  go_ret2
  exact ⟨rfl, k, hk, H1.out⟩

set_option maxHeartbeats 1000000 in
theorem popT (k : Nat) (r i : Int) (hi : cellS s (rootS s r) 6 = i) (hn : i ≠ -1) (hok : ∀ j, mOk k (rmS (tk s j) r) (lcS s r) (rcS s r)) (hm : s.most ≤ 65536) (h : Aft F w0 w pa pm s) (hs : s.steps + 18 * k ≤ 99980000) :
    Calls Tryz.prog 35 #[.pointer (some ⟨pa, 0, none⟩), .int .i64 r] w fun e w' => ∃ j, j ≤ 4 ∧ e = .returned (.tuple #[.int .i64 (meldS k (rmS (tk s j) r) (lcS s r) (rcS s r)).1, .int .i64 i]) ∧ Aft F w0 w' pa pm (meldS k (rmS (tk s j) r) (lcS s r) (rcS s r)).2 := by
  have HH := hid h
  have C := hid (minT r h.ex (by omega))
  have OK := hid hok
  clear h hok
  rw [hi] at C
  have hn' : (i == -1) = false := by simp [hn]
  clear hi
  go_enter Tryz.func35, Tryz.ntmps35
  go_wp2_with fail
  refine C.out.mono ?_
  rintro e w1 ⟨rfl, j, hj, h1⟩
  have H1 := hid (HH.out.back h1)
  clear h1 C HH
  go_wp2_with fail
  refine (removeT (s := tk s j) k r (OK.out j) hm H1.out (by show s.steps + j + 18 * k ≤ _; omega)).mono ?_
  rintro e w2 ⟨rfl, h2⟩
  have H2 := hid h2
  clear h2 H1
  rw [show lcS (tk s j) r = lcS s r from rfl, show rcS (tk s j) r = rcS s r from rfl]
  rw [show lcS (tk s j) r = lcS s r from rfl, show rcS (tk s j) r = rcS s r from rfl] at H2
  generalize hme : meldS k (rmS (tk s j) r) (lcS s r) (rcS s r) = me at *
  obtain ⟨m, s2⟩ := me
  have HM := hid hme
  clear hme
  go_wp2
  go_ret2
  exact ⟨j, hj, by rw [HM.out]; rfl, by rw [HM.out]; exact H2.out⟩

set_option maxHeartbeats 1000000 in
theorem MeldT (n : Nat) (r t : Int) (hr : Cl r) (ht : Cl t) (hok : ∀ k, mOk n (tk s k) (rootS s r) (rootS s t)) (hm : s.most ≤ 65536) (h : Ex F w0 w pa pm s) (hs : s.steps + 18 * n ≤ 99990000) :
    Calls Tryz.prog 41 #[.pointer (some ⟨pa, 0, none⟩), .int .i64 r, .int .i64 t] w fun e w' => ∃ k, k ≤ 6 ∧ e = .returned (.int .i64 (meldS n (tk s k) (rootS s r) (rootS s t)).1) ∧ Ex F w0 w' pa pm (meldS n (tk s k) (rootS s r) (rootS s t)).2 := by
  have C := hid (rootT r h (by omega))
  have OK := hid hok
  have C1 := hid (Cl.root s hr)
  have C2 := hid (Cl.root s ht)
  clear h hok hr ht
  have Q2 := hid (fun k => show rootS (tk s k) t = rootS s t from rfl)
  generalize rootS s r = x at *
  generalize rootS s t = y at *
  go_enter Tryz.func41, Tryz.ntmps41
  go_wp2_with fail
  refine C.out.mono ?_
  rintro e w1 ⟨rfl, k, hk, h1⟩
  have H1 := hid h1
  clear h1 C
  go_wp2_with fail
  refine (rootT t H1.out (by show s.steps + k ≤ _; omega)).mono ?_
  rintro e w2 ⟨rfl, k2, hk2, h2⟩
  have H2 := hid (show Ex F w0 w2 pa pm (tk s (k + k2)) by have : tk s (k + k2) = tk (tk s k) k2 := by unfold tk; simp; omega
                                                           rw [this]; exact h2)
  clear h2 H1
  rw [Q2.out k]
  go_wp2_with fail
  refine (meldT n (tk s (k + k2)) x y _ _ (OK.out _) C1.out C2.out hm H2.out (by show s.steps + (k + k2) + 18 * n ≤ _; omega)).mono ?_
  rintro e w3 ⟨rfl, h3⟩
  have H3 := hid h3
  clear h3 H2
  generalize hme : meldS n (tk s (k + k2)) x y = me at *
  obtain ⟨m, s2⟩ := me
  have HM := hid hme
  clear hme
  go_wp2
  go_ret
  exact ⟨k + k2, by omega, by rw [HM.out]; rfl, by rw [HM.out]; exact H3.out⟩
end
end Go.Proofs.YtnkpopeahmjodaaGreat
