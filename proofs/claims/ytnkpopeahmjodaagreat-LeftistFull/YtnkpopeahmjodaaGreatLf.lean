/- Leftist heaps: the small functions as plain functions of the arena's state, and their walks. -/
import Derived.Test.YtnkpopeahmjodaaGreatAw
namespace Go.Proofs.YtnkpopeahmjodaaGreat
open Go.ChangeShapes Go.WideShapes Go.ChangeAt Go.RowKit

theorem cell_range (s : St) (c f : Int) (h : s.most ≤ 65536) : -1 ≤ cellS s c f ∧ cellS s c f < 65536 := by
  unfold cellS; split <;> omega

/-- root -/
def rootS (s : St) (r : Int) : Int := if cellS s r 0 = -1 ∧ cellS s (cellS s r 6) 9 = r then r else -1
/-- child -/
def chS (s : St) (n f : Int) : Int := if cellS s (cellS s n f) 0 = n then cellS s n f else -1
/-- children -/
def lcS (s : St) (n : Int) : Int := chS s n 2
def rcS (s : St) (n : Int) : Int := if chS s n 2 = chS s n 3 then -1 else chS s n 3
def rkS (s : St) (n : Int) : Int := max (getS s n 4) 0
/-- before -/
def nbS (s : St) (n m : Int) : Bool := befS s (cellS s n 6) (cellS s m 6)
/-- link -/
def lkS (s : St) (n f c : Int) : St := setS (setS s n f c) c 0 n
/-- lean, with its children in their order -/
def leS (s : St) (n c d low : Int) : St := setS (tk (lkS (lkS (tk s 2) n 2 c) n 3 d) 1) n 4 (low + 1)
def leanS (s : St) (n c d : Int) : St := if rkS s c < rkS s d then leS s n d c (rkS s c) else leS s n c d (rkS s d)
def wasS (s : St) (n c d : Int) : Int := getS (lkS (lkS (tk s 2) n 2 c) n 3 d) n 4
def leanB (s : St) (n c d : Int) : Bool := if rkS s c < rkS s d then wasS s n d c != rkS s c + 1 else wasS s n c d != rkS s d + 1

theorem lk_steps (s : St) (n f c : Int) : (lkS s n f c).steps = s.steps + 2 := by unfold lkS; rw [set_steps, set_steps]
theorem le_steps (s : St) (n c d low : Int) : (leS s n c d low).steps = s.steps + 8 := by
  unfold leS; rw [set_steps]; show (lkS _ _ _ _).steps + 1 + 1 = _; rw [lk_steps, lk_steps]; show s.steps + 2 + 2 + 2 + 1 + 1 = _; rfl
theorem lean_steps (s : St) (n c d : Int) : (leanS s n c d).steps = s.steps + 8 := by unfold leanS; split <;> exact le_steps _ _ _ _ _
theorem set_most (s : St) (c f v : Int) : (setS s c f v).most = s.most := by unfold setS; split <;> rfl
theorem ret_tt {x x' y y' : Int} (h : x = x') (h' : y = y') : Ending.returned (.tuple #[.int .i64 x, .int .i64 y]) = .returned (.tuple #[.int .i64 x', .int .i64 y']) := by rw [h, h']

section
variable {F : Nat → Prop} {w0 w w' : World} {pa pm : Nat} {s s' : St}

set_option maxHeartbeats 1000000 in
theorem rootT (r : Int) (h : Ex F w0 w pa pm s) (hs : s.steps ≤ 99999900) :
    Calls Tryz.prog 47 #[.pointer (some ⟨pa, 0, none⟩), .int .i64 r] w fun e w' => e = .returned (.int .i64 (rootS s r)) ∧ ∃ k, k ≤ 3 ∧ Ex F w0 w' pa pm (tk s k) := by
  have C := hid (cellT r 0 h (by omega))
  clear h
  by_cases q : cellS s r 0 = -1
  · obtain ⟨i, hi⟩ : ∃ i, i = cellS s r 6 := ⟨_, rfl⟩
    have HI := hid hi
    by_cases q2 : cellS s i 9 = r
    · have Q := hid (show rootS s r = r by unfold rootS; rw [← hi, if_pos ⟨q, q2⟩])
      rw [q] at C
      have Q2 := hid q2
      clear q q2 hi
      go_enter Tryz.func47, Tryz.ntmps47
      go_wp2_with fail
      refine C.out.mono ?_
      rintro e w1 ⟨rfl, h1⟩
      have H1 := hid h1
      clear h1
      go_wp2_with fail
      refine (cellT r 6 H1.out (by show s.steps + 1 ≤ _; omega)).mono ?_
      rintro e w2 ⟨rfl, h2⟩
      have H2 := hid h2
      clear h2 H1
      rw [show cellS (tk s 1) r 6 = i from HI.out.symm]
      go_wp2_with fail
      refine (nodeT i H2.out (by show s.steps + 1 + 1 ≤ _; omega)).mono ?_
      rintro e w3 ⟨rfl, h3⟩
      have H3 := hid h3
      clear h3 H2
      rw [show cellS (tk (tk s 1) 1) i 9 = r from Q2.out]
      go_wp2
      go_ret
      exact ⟨ret_int Q.out.symm, 3, Nat.le_refl _, H3.out⟩
    · have Q := hid (show rootS s r = -1 by unfold rootS; rw [← hi, if_neg (fun z => q2 z.2)])
      rw [q] at C
      obtain ⟨m, hm⟩ : ∃ m, m = cellS s i 9 := ⟨_, rfl⟩
      rw [← hm] at q2
      have HM := hid hm
      have q2' : (m == r) = false := by simp [q2]
      clear q q2 hi hm
      go_enter Tryz.func47, Tryz.ntmps47
      go_wp2_with fail
      refine C.out.mono ?_
      rintro e w1 ⟨rfl, h1⟩
      have H1 := hid h1
      clear h1
      go_wp2_with fail
      refine (cellT r 6 H1.out (by show s.steps + 1 ≤ _; omega)).mono ?_
      rintro e w2 ⟨rfl, h2⟩
      have H2 := hid h2
      clear h2 H1
      rw [show cellS (tk s 1) r 6 = i from HI.out.symm]
      go_wp2_with fail
      refine (nodeT i H2.out (by show s.steps + 1 + 1 ≤ _; omega)).mono ?_
      rintro e w3 ⟨rfl, h3⟩
      have H3 := hid h3
      clear h3 H2
      rw [show cellS (tk (tk s 1) 1) i 9 = m from HM.out.symm]
      go_wp2
      go_ret
      exact ⟨ret_int Q.out.symm, 3, Nat.le_refl _, H3.out⟩
  · have Q := hid (show rootS s r = -1 by unfold rootS; rw [if_neg (fun z => q z.1)])
    obtain ⟨m, hm⟩ : ∃ m, m = cellS s r 0 := ⟨_, rfl⟩
    rw [← hm] at q C
    have q' : (m == -1) = false := by simp [q]
    clear hm
    go_enter Tryz.func47, Tryz.ntmps47
    go_wp2_with fail
    refine C.out.mono ?_
    rintro e w1 ⟨rfl, h1⟩
    have H1 := hid h1
    clear h1
    go_wp2
    go_ret
    exact ⟨ret_int Q.out.symm, 1, by omega, H1.out⟩

set_option maxHeartbeats 1000000 in
theorem childT (n f : Int) (h : Ex F w0 w pa pm s) (hs : s.steps ≤ 99999900) :
    Calls Tryz.prog 77 #[.pointer (some ⟨pa, 0, none⟩), .int .i64 n, .int .i64 f] w fun e w' => e = .returned (.int .i64 (chS s n f)) ∧ Ex F w0 w' pa pm (tk s 2) := by
  have C := hid (cellT n f h (by omega))
  clear h
  obtain ⟨c, hc⟩ : ∃ c, c = cellS s n f := ⟨_, rfl⟩
  rw [← hc] at C
  obtain ⟨u, hu⟩ : ∃ u, u = cellS s c 0 := ⟨_, rfl⟩
  have HU := hid hu
  have Q := hid (show chS s n f = if u = n then c else -1 by unfold chS; rw [← hc, ← hu])
  clear hc hu
  go_enter Tryz.func77, Tryz.ntmps77
  go_wp2_with fail
  refine C.out.mono ?_
  rintro e w1 ⟨rfl, h1⟩
  have H1 := hid h1
  clear h1 C
  go_wp2_with fail
  refine (cellT c 0 H1.out (by show s.steps + 1 ≤ _; omega)).mono ?_
  rintro e w2 ⟨rfl, h2⟩
  have H2 := hid h2
  clear h2 H1
  rw [show cellS (tk s 1) c 0 = u from HU.out.symm]
  by_cases q : u = n
  · subst q
    go_wp2
    go_ret
    exact ⟨ret_int (by rw [Q.out]; simp), H2.out⟩
  · have q' : (u == n) = false := by simp [q]
    have Q2 := hid q
    clear q
    go_wp2
    go_ret
    exact ⟨ret_int (by rw [Q.out, if_neg Q2.out]), H2.out⟩

set_option maxHeartbeats 1000000 in
theorem childrenT (n : Int) (h : Ex F w0 w pa pm s) (hs : s.steps ≤ 99999800) :
    Calls Tryz.prog 62 #[.pointer (some ⟨pa, 0, none⟩), .int .i64 n] w fun e w' => e = .returned (.tuple #[.int .i64 (lcS s n), .int .i64 (rcS s n)]) ∧ Ex F w0 w' pa pm (tk s 4) := by
  have C := hid (childT n 2 h (by omega))
  clear h
  obtain ⟨c, hc⟩ : ∃ c, c = chS s n 2 := ⟨_, rfl⟩
  rw [← hc] at C
  obtain ⟨d, hd⟩ : ∃ d, d = chS s n 3 := ⟨_, rfl⟩
  have HD := hid hd
  have Q := hid (show lcS s n = c ∧ rcS s n = if c = d then -1 else d by unfold lcS rcS; rw [← hc, ← hd]; exact ⟨rfl, rfl⟩)
  clear hc hd
  go_enter Tryz.func62, Tryz.ntmps62
  go_wp2_with fail
  refine C.out.mono ?_
  rintro e w1 ⟨rfl, h1⟩
  have H1 := hid h1
  clear h1 C
  go_wp2_with fail
  refine (childT n 3 H1.out (by show s.steps + 2 ≤ _; omega)).mono ?_
  rintro e w2 ⟨rfl, h2⟩
  have H2 := hid h2
  clear h2 H1
  rw [show chS (tk s 2) n 3 = d from HD.out.symm]
  by_cases q : c = d
  · subst q
    go_wp2
    go_ret2
    exact ⟨ret_tt Q.out.1.symm (by rw [Q.out.2]; simp), H2.out⟩
  · have q' : (c == d) = false := by simp [q]
    have Q2 := hid q
    clear q
    go_wp2
    go_ret2
    exact ⟨ret_tt Q.out.1.symm (by rw [Q.out.2, if_neg Q2.out]), H2.out⟩

set_option maxHeartbeats 1000000 in
theorem rankT (n : Int) (h : Ex F w0 w pa pm s) (hs : s.steps ≤ 99999990) :
    Calls Tryz.prog 85 #[.pointer (some ⟨pa, 0, none⟩), .int .i64 n] w fun e w' => e = .returned (.int .i64 (rkS s n)) ∧ Ex F w0 w' pa pm (tk s 1) := by
  have C := hid (getT n 4 h (by omega))
  clear h
  unfold rkS
  generalize getS s n 4 = x at C ⊢
  go_enter Tryz.func85, Tryz.ntmps85
  go_wp2_with fail
  refine C.out.mono ?_
  rintro e w1 ⟨rfl, h1⟩
  have H1 := hid h1
  clear h1 C
  go_wp2
  all_goals go_ret
  all_goals exact ⟨ret_int (by omega), H1.out⟩

set_option maxHeartbeats 1000000 in
theorem nbeforeT (n m : Int) (h : Ex F w0 w pa pm s) (hs : s.steps ≤ 99999800) :
    Calls Tryz.prog 59 #[.pointer (some ⟨pa, 0, none⟩), .int .i64 n, .int .i64 m] w fun e w' => e = .returned (.bool (nbS s n m)) ∧ Ex F w0 w' pa pm (tk s 6) := by
  have C := hid (cellT n 6 h (by omega))
  clear h
  obtain ⟨c, hc⟩ : ∃ c, c = cellS s n 6 := ⟨_, rfl⟩
  rw [← hc] at C
  obtain ⟨d, hd⟩ : ∃ d, d = cellS s m 6 := ⟨_, rfl⟩
  have HD := hid hd
  have Q := hid (show nbS s n m = befS s c d by unfold nbS; rw [← hc, ← hd])
  clear hc hd
  go_enter Tryz.func59, Tryz.ntmps59
  go_wp2_with fail
  refine C.out.mono ?_
  rintro e w1 ⟨rfl, h1⟩
  have H1 := hid h1
  clear h1 C
  go_wp2_with fail
  refine (cellT m 6 H1.out (by show s.steps + 1 ≤ _; omega)).mono ?_
  rintro e w2 ⟨rfl, h2⟩
  have H2 := hid h2
  clear h2 H1
  rw [show cellS (tk s 1) m 6 = d from HD.out.symm]
  go_wp2_with fail
  refine (beforeT c d H2.out (by show s.steps + 1 + 1 ≤ _; omega)).mono ?_
  rintro e w3 ⟨rfl, h3⟩
  have H3 := hid h3
  clear h3 H2
  rw [show befS (tk (tk s 1) 1) c d = nbS s n m from Q.out.symm]
  go_wp2
  go_ret
  exact ⟨rfl, H3.out⟩

set_option maxHeartbeats 1000000 in
theorem linkT (n f c : Int) (hn : -1 ≤ n ∧ n ≤ 65536) (hc : -1 ≤ c ∧ c ≤ 65536) (h : Ex F w0 w pa pm s) (hs : s.steps ≤ 99999990) :
    Calls Tryz.prog 86 #[.pointer (some ⟨pa, 0, none⟩), .int .i64 n, .int .i64 f, .int .i64 c] w fun e w' => e = .returned (.tuple #[]) ∧ Ex F w0 w' pa pm (lkS s n f c) := by
  have C := hid (setT n f c h (by omega))
  clear h
  obtain ⟨hn0, hn1⟩ := hn
  obtain ⟨hc0, hc1⟩ := hc
  generalize hm : mayS s n f = m1 at C
  clear hm
  go_enter Tryz.func86, Tryz.ntmps86
  go_wp2_with fail
  refine C.out.mono ?_
  rintro e w1 ⟨rfl, h1⟩
  have H1 := hid h1
  clear h1 C
  have C := hid (setT c 0 n H1.out (by rw [set_steps]; omega))
  generalize hm : mayS (setS s n f c) c 0 = m2 at C
  clear hm
  go_wp2_with fail
  refine C.out.mono ?_
  rintro e w2 ⟨rfl, h2⟩
  have H2 := hid h2
  clear h2 H1
  go_wp2
  go_end0
  exact ⟨rfl, H2.out⟩
end
end Go.Proofs.YtnkpopeahmjodaaGreat
