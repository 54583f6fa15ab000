/- Leftist heaps: the walks of below, Push, Fall, Cut. -/
import Derived.Test.YtnkpopeahmjodaaGreatLi
namespace Go.Proofs.YtnkpopeahmjodaaGreat
open Go.ChangeShapes Go.WideShapes Go.ChangeAt Go.RowKit

theorem tk_tk (s : St) (a b : Nat) : tk (tk s a) b = tk s (a + b) := by unfold tk; simp; omega
def belB (s : St) (r n : Int) : Bool := decide (rootS s r ≠ -1) && decide (cellS s n 0 ≠ -1)

section
variable {F : Nat → Prop} {w0 w w' : World} {pa pm : Nat} {s s' : St}
set_option maxHeartbeats 1000000 in
theorem belowT (r n : Int) (h : Ex F w0 w pa pm s) (hs : s.steps ≤ 99999800) :
    Calls Tryz.prog 58 #[.pointer (some ⟨pa, 0, none⟩), .int .i64 r, .int .i64 n] w fun e w' => e = .returned (.bool (belB s r n)) ∧ ∃ k, k ≤ 4 ∧ Ex F w0 w' pa pm (tk s k) := by
  have C := hid (rootT r h (by omega))
  clear h
  unfold belB
  have U := hid (fun k => show cellS (tk s k) n 0 = cellS s n 0 from rfl)
  generalize rootS s r = x at *
  generalize cellS s n 0 = u at *
  by_cases c1 : x = -1
  · subst c1
    go_enter Tryz.func58, Tryz.ntmps58
    go_wp2_with fail
    refine C.out.mono ?_
    rintro e w1 ⟨rfl, k, hk, h1⟩
    have H1 := hid h1
    clear h1 C
    go_wp2
    go_ret
    exact ⟨rfl, k, by omega, H1.out⟩
  · have c1' : (x == -1) = false := by simp [c1]
    by_cases c2 : u = -1
    · subst c2
      go_enter Tryz.func58, Tryz.ntmps58
      go_wp2_with fail
      refine C.out.mono ?_
      rintro e w1 ⟨rfl, k, hk, h1⟩
      have H1 := hid h1
      clear h1 C
      go_wp2_with fail
      refine (cellT n 0 H1.out (by show s.steps + k ≤ _; omega)).mono ?_
      rw [U.out k]
      rintro e w2 ⟨rfl, h2⟩
      have H2 := hid h2
      clear h2 H1
      go_wp2
      go_ret
      exact ⟨ret_bool (by simp), k + 1, by omega, by rw [← tk_tk]; exact H2.out⟩
    · have c2' : (u == -1) = false := by simp [c2]
      go_enter Tryz.func58, Tryz.ntmps58
      go_wp2_with fail
      refine C.out.mono ?_
      rintro e w1 ⟨rfl, k, hk, h1⟩
      have H1 := hid h1
      clear h1 C
      go_wp2_with fail
      refine (cellT n 0 H1.out (by show s.steps + k ≤ _; omega)).mono ?_
      rw [U.out k]
      rintro e w2 ⟨rfl, h2⟩
      have H2 := hid h2
      clear h2 H1
      go_wp2
      go_ret
      exact ⟨ret_bool (by simp [c1, c2]), k + 1, by omega, by rw [← tk_tk]; exact H2.out⟩

set_option maxHeartbeats 1000000 in
theorem fallT_stay (r i n : Int) (hn : cellS s i 9 = n) (hq : belB s r n = false ∨ nbS s n (cellS s n 0) = false) (h : Ex F w0 w pa pm s) (hs : s.steps ≤ 99999000) :
    Calls Tryz.prog 39 #[.pointer (some ⟨pa, 0, none⟩), .int .i64 r, .int .i64 i] w fun e w' => e = .returned (.int .i64 r) ∧ ∃ k, k ≤ 12 ∧ Ex F w0 w' pa pm (tk s k) := by
  have C := hid (nodeT i h (by omega))
  rw [hn] at C
  clear h hn
  have U1 := hid (fun k => show belB (tk s k) r n = belB s r n from rfl)
  have U2 := hid (fun k => show cellS (tk s k) n 0 = cellS s n 0 from rfl)
  have U3 := hid (fun k m => show nbS (tk s k) n m = nbS s n m from rfl)
  go_enter Tryz.func39, Tryz.ntmps39
  go_wp2_with fail
  refine C.out.mono ?_
  rintro e w1 ⟨rfl, h1⟩
  have H1 := hid h1
  clear h1 C
  have B := hid (belowT r n H1.out (by show s.steps + 1 ≤ _; omega))
  rw [U1.out] at B
  clear U1
  generalize belB s r n = b at *
  cases b
  · clear hq
    go_wp2_with fail
    refine B.out.mono ?_
    rintro e w2 ⟨rfl, k, hk, h2⟩
    have H2 := hid h2
    clear h2 B
    go_wp2
    go_ret
    exact ⟨rfl, 1 + k, by omega, by rw [← tk_tk]; exact H2.out⟩
  · have HQ := hid (hq.resolve_left (by decide))
    clear hq
    generalize cellS s n 0 = u at *
    go_wp2_with fail
    refine B.out.mono ?_
    rintro e w2 ⟨rfl, k, hk, h2⟩
    have H2 := hid (show Ex F w0 w2 pa pm (tk s (1 + k)) by rw [← tk_tk]; exact h2)
    clear h2 B
    go_wp2_with fail
    refine (cellT n 0 H2.out (by show s.steps + (1 + k) ≤ _; omega)).mono ?_
    rw [U2.out]
    rintro e w3 ⟨rfl, h3⟩
    have H3 := hid (show Ex F w0 w3 pa pm (tk s (1 + k + 1)) by rw [← tk_tk]; exact h3)
    clear h3 H2
    have N := hid (nbeforeT n u H3.out (by show s.steps + (1 + k + 1) ≤ _; omega))
    rw [U3.out, HQ.out] at N
    go_wp2_with fail
    refine N.out.mono ?_
    rintro e w4 ⟨rfl, h4⟩
    have H4 := hid (show Ex F w0 w4 pa pm (tk s (1 + k + 1 + 6)) by rw [← tk_tk]; exact h4)
    clear h4 H3 N
    go_wp2
    go_ret
    exact ⟨rfl, 1 + k + 1 + 6, by omega, H4.out⟩

/-- detach, k steps later -/
def dS (kd : Nat) (s : St) (n : Int) (k : Nat) : St := detS kd (setS (tk (tk s k) 1) n 0 (-1)) (cellS s n 0)
theorem ds_steps (kd : Nat) (s : St) (n : Int) (k : Nat) : (dS kd s n k).steps ≤ s.steps + k + 2 + 13 * kd := by
  unfold dS
  have := det_steps kd (setS (tk (tk s k) 1) n 0 (-1)) (cellS s n 0)
  rw [set_steps] at this
  have e : (tk (tk s k) 1).steps = s.steps + k + 1 := rfl
  omega
theorem ds_most (kd : Nat) (s : St) (n : Int) (k : Nat) : (dS kd s n k).most = s.most := by
  unfold dS
  rw [det_most, set_most]; rfl

set_option maxHeartbeats 1000000 in
theorem fallT (kd km : Nat) (r i n : Int) (hn : cellS s i 9 = n) (hq : belB s r n = true) (hq2 : nbS s n (cellS s n 0) = true)
    (hd : ∀ k, dOk kd (setS (tk (tk s k) 1) n 0 (-1)) (cellS s n 0)) (hme : ∀ k, mOk km (dS kd s n k) r n) (hkd : kd ≤ s.most) (hm : s.most ≤ 65536) (hr : Cl r) (hcn : Cl n) (h : Ex F w0 w pa pm s) (hs : s.steps + 13 * kd + 18 * km ≤ 99900000) :
    Calls Tryz.prog 39 #[.pointer (some ⟨pa, 0, none⟩), .int .i64 r, .int .i64 i] w fun e w' => ∃ k, k ≤ 12 ∧ e = .returned (.int .i64 (meldS km (dS kd s n k) r n).1) ∧ Ex F w0 w' pa pm (meldS km (dS kd s n k) r n).2 := by
  have C := hid (nodeT i h (by omega))
  rw [hn] at C
  clear h hn
  have U1 := hid (fun k => show belB (tk s k) r n = belB s r n from rfl)
  have U2 := hid (fun k => show cellS (tk s k) n 0 = cellS s n 0 from rfl)
  have U3 := hid (fun k m => show nbS (tk s k) n m = nbS s n m from rfl)
  have HQ := hid hq
  have HQ2 := hid hq2
  have HD := hid hd
  have HM := hid hme
  have HR := hid hr
  have CN := hid hcn
  clear hq hq2 hd hme hr hcn
  obtain ⟨u, hu⟩ : ∃ u, u = cellS s n 0 := ⟨_, rfl⟩
  rw [← hu] at HQ2
  have HU := hid hu
  clear hu
  go_enter Tryz.func39, Tryz.ntmps39
  go_wp2_with fail
  refine C.out.mono ?_
  rintro e w1 ⟨rfl, h1⟩
  have H1 := hid h1
  clear h1 C
  have B := hid (belowT r n H1.out (by show s.steps + 1 ≤ _; omega))
  rw [U1.out, HQ.out] at B
  clear U1
  go_wp2_with fail
  refine B.out.mono ?_
  rintro e w2 ⟨rfl, k, hk, h2⟩
  have H2 := hid (show Ex F w0 w2 pa pm (tk s (1 + k)) by rw [← tk_tk]; exact h2)
  clear h2 B
  go_wp2_with fail
  refine (cellT n 0 H2.out (by show s.steps + (1 + k) ≤ _; omega)).mono ?_
  rw [U2.out, ← HU.out]
  rintro e w3 ⟨rfl, h3⟩
  have H3 := hid (show Ex F w0 w3 pa pm (tk s (1 + k + 1)) by rw [← tk_tk]; exact h3)
  clear h3 H2
  have N := hid (nbeforeT n u H3.out (by show s.steps + (1 + k + 1) ≤ _; omega))
  rw [U3.out, HQ2.out] at N
  go_wp2_with fail
  refine N.out.mono ?_
  rintro e w4 ⟨rfl, h4⟩
  have H4 := hid (show Ex F w0 w4 pa pm (tk s (1 + k + 1 + 6)) by rw [← tk_tk]; exact h4)
  clear h4 H3 N
  obtain ⟨k', hk'⟩ : ∃ k', k' = 1 + k + 1 + 6 := ⟨_, rfl⟩
  rw [← hk'] at H4
  have hk2 : k' ≤ 12 := by omega
  clear hk'
  go_wp2_with fail
  refine (detachT (s := tk s k') kd n (HD.out k') hkd hm H4.out (by show s.steps + k' + 13 * kd ≤ _; omega)).mono ?_
  rintro e w5 ⟨rfl, h5⟩
  have H5 := hid (show Ex F w0 w5 pa pm (dS kd s n k') from h5)
  clear h5 H4
  go_wp2_with fail
  refine (meldT km (dS kd s n k') r n _ _ (HM.out k') HR.out CN.out (by rw [ds_most]; exact hm) H5.out (by have := ds_steps kd s n k'; omega)).mono ?_
  rintro e w6 ⟨rfl, h6⟩
  have H6 := hid h6
  clear h6 H5
  generalize hme : meldS km (dS kd s n k') r n = me at *
  obtain ⟨m, s2⟩ := me
  have HE := hid hme
  clear hme
  go_wp2
  go_ret
  exact ⟨k', hk2, by rw [HE.out]; rfl, by rw [HE.out]; exact H6.out⟩

set_option maxHeartbeats 1000000 in
theorem cutT_root (km : Nat) (r i n : Int) (hn : cellS s i 9 = n) (hq : rootS s r = n) (hn1 : n ≠ -1)
    (hme : ∀ k, mOk km (rmS (tk s k) n) (lcS s n) (rcS s n)) (hm : s.most ≤ 65536) (h : Aft F w0 w pa pm s) (hs : s.steps + 18 * km ≤ 99900000) :
    Calls Tryz.prog 40 #[.pointer (some ⟨pa, 0, none⟩), .int .i64 r, .int .i64 i] w fun e w' => ∃ k, k ≤ 4 ∧ e = .returned (.int .i64 (meldS km (rmS (tk s k) n) (lcS s n) (rcS s n)).1) ∧ Aft F w0 w' pa pm (meldS km (rmS (tk s k) n) (lcS s n) (rcS s n)).2 := by
  have HH := hid h
  have C := hid (nodeT i h.ex (by omega))
  rw [hn] at C
  have U1 := hid (fun k => show rootS (tk s k) r = rootS s r from rfl)
  have HQ := hid hq
  have HM := hid hme
  clear h hn hq hme
  have hn' : (n == -1) = false := by simp [hn1]
  go_enter Tryz.func40, Tryz.ntmps40
  go_wp2_with fail
  refine C.out.mono ?_
  rintro e w1 ⟨rfl, h1⟩
  have H1 := hid (HH.out.back h1)
  clear h1 C HH
  have R := hid (rootT r H1.out.ex (by show s.steps + 1 ≤ _; omega))
  rw [U1.out, HQ.out] at R
  go_wp2_with fail
  refine R.out.mono ?_
  rintro e w2 ⟨rfl, k, hk, h2⟩
  have H2 := hid (show Aft F w0 w2 pa pm (tk s (1 + k)) by rw [← tk_tk]; exact H1.out.back h2)
  clear h2 R H1
  go_wp2_with fail
  refine (removeT (s := tk s (1 + k)) km n (HM.out _) hm H2.out (by show s.steps + (1 + k) + 18 * km ≤ _; omega)).mono ?_
  rw [show lcS (tk s (1 + k)) n = lcS s n from rfl, show rcS (tk s (1 + k)) n = rcS s n from rfl]
  rintro e w3 ⟨rfl, h3⟩
  have H3 := hid h3
  clear h3 H2
  generalize hme : meldS km (rmS (tk s (1 + k)) n) (lcS s n) (rcS s n) = me at *
  obtain ⟨m, s2⟩ := me
  have HE := hid hme
  clear hme
  go_wp2
  go_ret
  exact ⟨1 + k, by omega, by rw [HE.out]; rfl, by rw [HE.out]; exact H3.out⟩

/-- Cut below: detach, remove -/
def cuS (kd km : Nat) (s : St) (n : Int) (k : Nat) : Int × St := meldS km (rmS (dS kd s n k) n) (lcS (dS kd s n k) n) (rcS (dS kd s n k) n)
set_option maxHeartbeats 1000000 in
theorem cutT (kd km kl : Nat) (r i n : Int) (hn : cellS s i 9 = n) (hn1 : n ≠ -1) (hq0 : rootS s r ≠ n) (hq : belB s r n = true)
    (hd : ∀ k, dOk kd (setS (tk (tk s k) 1) n 0 (-1)) (cellS s n 0)) (hme : ∀ k, mOk km (rmS (dS kd s n k) n) (lcS (dS kd s n k) n) (rcS (dS kd s n k) n))
    (hml : ∀ k, mOk kl (cuS kd km s n k).2 r (cuS kd km s n k).1) (hkd : kd ≤ s.most) (hm : s.most ≤ 65536) (hr : Cl r) (h : Aft F w0 w pa pm s) (hs : s.steps + 13 * kd + 18 * km + 18 * kl ≤ 99900000) :
    Calls Tryz.prog 40 #[.pointer (some ⟨pa, 0, none⟩), .int .i64 r, .int .i64 i] w fun e w' => ∃ k, k ≤ 12 ∧ e = .returned (.int .i64 (meldS kl (cuS kd km s n k).2 r (cuS kd km s n k).1).1) ∧ Aft F w0 w' pa pm (meldS kl (cuS kd km s n k).2 r (cuS kd km s n k).1).2 := by
  have HH := hid h
  have C := hid (nodeT i h.ex (by omega))
  rw [hn] at C
  have U0 := hid (fun k => show rootS (tk s k) r = rootS s r from rfl)
  have U1 := hid (fun k => show belB (tk s k) r n = belB s r n from rfl)
  have HQ := hid hq
  have HD := hid hd
  have HM := hid hme
  have HL := hid hml
  have HR := hid hr
  clear h hn hq hme hd hml hr
  have hn' : (n == -1) = false := by simp [hn1]
  generalize rootS s r = x at *
  have hx' : (n == x) = false := by simp; exact fun e => hq0 e.symm
  clear hq0
  go_enter Tryz.func40, Tryz.ntmps40
  go_wp2_with fail
  refine C.out.mono ?_
  rintro e w1 ⟨rfl, h1⟩
  have H1 := hid (HH.out.back h1)
  clear h1 C HH
  have R := hid (rootT r H1.out.ex (by show s.steps + 1 ≤ _; omega))
  rw [U0.out] at R
  go_wp2_with fail
  refine R.out.mono ?_
  rintro e w2 ⟨rfl, k, hk, h2⟩
  have H2 := hid (show Aft F w0 w2 pa pm (tk s (1 + k)) by rw [← tk_tk]; exact H1.out.back h2)
  clear h2 R H1
  have B := hid (belowT r n H2.out.ex (by show s.steps + (1 + k) ≤ _; omega))
  rw [U1.out, HQ.out] at B
  go_wp2_with fail
  refine B.out.mono ?_
  rintro e w3 ⟨rfl, k2, hk2, h3⟩
  have H3 := hid (show Aft F w0 w3 pa pm (tk s (1 + k + k2)) by rw [← tk_tk]; exact H2.out.back h3)
  clear h3 B H2
  obtain ⟨k', hk'⟩ : ∃ k', k' = 1 + k + k2 := ⟨_, rfl⟩
  rw [← hk'] at H3
  have hk3 : k' ≤ 12 := by omega
  clear hk'
  go_wp2_with fail
  refine (detachT (s := tk s k') kd n (HD.out k') hkd hm H3.out.ex (by show s.steps + k' + 13 * kd ≤ _; omega)).mono ?_
  rintro e w4 ⟨rfl, h4⟩
  have H4 := hid (show Aft F w0 w4 pa pm (dS kd s n k') from H3.out.back h4)
  clear h4 H3
  go_wp2_with fail
  refine (removeT (s := dS kd s n k') km n (HM.out k') (by rw [ds_most]; exact hm) H4.out (by have := ds_steps kd s n k'; omega)).mono ?_
  rintro e w5 ⟨rfl, h5⟩
  have H5 := hid (show Aft F w0 w5 pa pm (cuS kd km s n k').2 from h5)
  clear h5 H4
  rw [show (meldS km (rmS (dS kd s n k') n) (lcS (dS kd s n k') n) (rcS (dS kd s n k') n)).1 = (cuS kd km s n k').1 from rfl]
  have ST := hid (show (cuS kd km s n k').2.steps ≤ s.steps + k' + 2 + 13 * kd + 9 + 18 * km by
    have a := ds_steps kd s n k'
    have b := meld_steps km (rmS (dS kd s n k') n) (lcS (dS kd s n k') n) (rcS (dS kd s n k') n)
    rw [rm_steps] at b
    unfold cuS
    omega)
  have MO := hid (show (cuS kd km s n k').2.most ≤ 65536 by unfold cuS; rw [meld_most, rm_most, ds_most]; exact hm)
  have CC := hid (show Cl (cuS kd km s n k').1 from meld_cl km _ _ _ (Cl.lc _ _ (by rw [ds_most]; exact hm)) (Cl.rc _ _ (by rw [ds_most]; exact hm)))
  have OK := hid (HL.out k')
  clear HL
  generalize hcu : cuS kd km s n k' = cu at *
  obtain ⟨x1, s1⟩ := cu
  have CU := hid hcu
  clear hcu
  go_wp2_with fail
  refine (meldT kl s1 r x1 _ _ OK.out HR.out CC.out MO.out H5.out.ex (by have : s1.steps ≤ s.steps + k' + 2 + 13 * kd + 9 + 18 * km := ST.out; omega)).mono ?_
  rintro e w6 ⟨rfl, h6⟩
  have H6 := hid (H5.out.back h6)
  clear h6 H5
  generalize hme : meldS kl s1 r x1 = me at *
  obtain ⟨m, s2⟩ := me
  have HE := hid hme
  clear hme
  go_wp2
  go_ret
  exact ⟨k', hk3, by rw [CU.out, HE.out]; rfl, by rw [CU.out, HE.out]; exact H6.out⟩
end
end Go.Proofs.YtnkpopeahmjodaaGreat
