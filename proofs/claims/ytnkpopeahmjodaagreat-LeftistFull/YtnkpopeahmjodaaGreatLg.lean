/- Leftist heaps: lean, meld, as plain functions, and their walks. -/
import Derived.Test.YtnkpopeahmjodaaGreatLf
namespace Go.Proofs.YtnkpopeahmjodaaGreat
open Go.ChangeShapes Go.WideShapes Go.ChangeAt Go.RowKit

/-- a cell, or none -/
def Cl (c : Int) : Prop := -1 ≤ c ∧ c ≤ 65536
theorem Cl.cell (s : St) (c f : Int) (h : s.most ≤ 65536) : Cl (cellS s c f) := ⟨(cell_range s c f h).1, by have := (cell_range s c f h).2; omega⟩
theorem Cl.none : Cl (-1) := ⟨by omega, by omega⟩
theorem Cl.ch (s : St) (n f : Int) (h : s.most ≤ 65536) : Cl (chS s n f) := by
  unfold chS; split
  · exact Cl.cell s n f h
  · exact Cl.none
theorem Cl.lc (s : St) (n : Int) (h : s.most ≤ 65536) : Cl (lcS s n) := Cl.ch s n 2 h
theorem Cl.rc (s : St) (n : Int) (h : s.most ≤ 65536) : Cl (rcS s n) := by
  unfold rcS; split
  · exact Cl.none
  · exact Cl.ch s n 3 h
theorem Cl.root (s : St) {r : Int} (h : Cl r) : Cl (rootS s r) := by
  unfold rootS; split
  · exact h
  · exact Cl.none

section
variable {F : Nat → Prop} {w0 w w' : World} {pa pm : Nat} {s s' : St}
set_option maxHeartbeats 1000000 in
theorem leanT (n c d : Int) (hn : Cl n) (hc : Cl c) (hd : Cl d) (h1 : rkS s c < 1000000) (h2 : rkS s d < 1000000) (h : Ex F w0 w pa pm s) (hs : s.steps ≤ 99999900) :
    Calls Tryz.prog 75 #[.pointer (some ⟨pa, 0, none⟩), .int .i64 n, .int .i64 c, .int .i64 d] w fun e w' => e = .returned (.bool (leanB s n c d)) ∧ Ex F w0 w' pa pm (leanS s n c d) := by
  have C := hid (rankT c h (by omega))
  clear h
  have hx0 : 0 ≤ rkS s c := by unfold rkS; omega
  have hy0 : 0 ≤ rkS s d := by unfold rkS; omega
  have HN := hid hn
  have HC := hid hc
  have HD := hid hd
  clear hn hc hd
  by_cases q : rkS s c < rkS s d
  · have Q1 := hid (show leanB s n c d = (wasS s n d c != rkS s c + 1) by unfold leanB; rw [if_pos q])
    have Q2 := hid (show leanS s n c d = leS s n d c (rkS s c) by unfold leanS; rw [if_pos q])
    obtain ⟨y, hy⟩ : ∃ y, y = rkS s d := ⟨_, rfl⟩
    have Y := hid hy
    rw [← hy] at q hy0 h2
    clear hy
    generalize rkS s c = x at *
    go_enter Tryz.func75, Tryz.ntmps75
    go_wp2_with fail
    refine C.out.mono ?_
    rintro e w1 ⟨rfl, h1⟩
    have H1 := hid h1
    clear h1 C
    go_wp2_with fail
    refine (rankT d H1.out (by show s.steps + 1 ≤ _; omega)).mono ?_
    rintro e w2 ⟨rfl, h2⟩
    have H2 := hid h2
    clear h2 H1
    rw [show rkS (tk s 1) d = y from Y.out.symm]
    go_wp2_with fail
    refine (linkT n 2 d HN.out HD.out H2.out (by show s.steps + 1 + 1 ≤ _; omega)).mono ?_
    rintro e w3 ⟨rfl, h3⟩
    have H3 := hid h3
    clear h3 H2
    go_wp2_with fail
    refine (linkT n 3 c HN.out HC.out H3.out (by rw [lk_steps]; show s.steps + 1 + 1 + 2 ≤ _; omega)).mono ?_
    rintro e w4 ⟨rfl, h4⟩
    have H4 := hid h4
    clear h4 H3
    go_wp2_with fail
    refine (getT n 4 H4.out (by rw [lk_steps, lk_steps]; show s.steps + 1 + 1 + 2 + 2 ≤ _; omega)).mono ?_
    rintro e w5 ⟨rfl, h5⟩
    have H5 := hid h5
    clear h5 H4
    obtain ⟨z, hz⟩ : ∃ z, z = wasS s n d c := ⟨_, rfl⟩
    rw [show getS (lkS (lkS (tk (tk s 1) 1) n 2 d) n 3 c) n 4 = z from hz.symm]
    rw [← hz] at Q1
    clear hz
    have S := hid (setT n 4 (x + 1) H5.out (by show (lkS _ _ _ _).steps + 1 ≤ _; rw [lk_steps, lk_steps]; show s.steps + 1 + 1 + 2 + 2 + 1 ≤ _; omega))
    generalize mayS (tk (lkS (lkS (tk (tk s 1) 1) n 2 d) n 3 c) 1) n 4 = m1 at S
    go_wp2_with fail
    refine S.out.mono ?_
    rintro e w6 ⟨rfl, h6⟩
    have H6 := hid h6
    clear h6 H5 S
    go_wp2
    go_ret
    rw [Q1.out, Q2.out]
    exact ⟨ret_bool (by simp [bne]), H6.out⟩
  · have Q1 := hid (show leanB s n c d = (wasS s n c d != rkS s d + 1) by unfold leanB; rw [if_neg q])
    have Q2 := hid (show leanS s n c d = leS s n c d (rkS s d) by unfold leanS; rw [if_neg q])
    obtain ⟨y, hy⟩ : ∃ y, y = rkS s d := ⟨_, rfl⟩
    have Y := hid hy
    rw [← hy] at q hy0 h2
    rw [← hy] at Q1 Q2
    clear hy
    generalize rkS s c = x at *
    have q' : decide (x < y) = false := by simp; omega
    clear q
    go_enter Tryz.func75, Tryz.ntmps75
    go_wp2_with fail
    refine C.out.mono ?_
    rintro e w1 ⟨rfl, h1⟩
    have H1 := hid h1
    clear h1 C
    go_wp2_with fail
    refine (rankT d H1.out (by show s.steps + 1 ≤ _; omega)).mono ?_
    rintro e w2 ⟨rfl, h2⟩
    have H2 := hid h2
    clear h2 H1
    rw [show rkS (tk s 1) d = y from Y.out.symm]
    go_wp2_with fail
    refine (linkT n 2 c HN.out HC.out H2.out (by show s.steps + 1 + 1 ≤ _; omega)).mono ?_
    rintro e w3 ⟨rfl, h3⟩
    have H3 := hid h3
    clear h3 H2
    go_wp2_with fail
    refine (linkT n 3 d HN.out HD.out H3.out (by rw [lk_steps]; show s.steps + 1 + 1 + 2 ≤ _; omega)).mono ?_
    rintro e w4 ⟨rfl, h4⟩
    have H4 := hid h4
    clear h4 H3
    go_wp2_with fail
    refine (getT n 4 H4.out (by rw [lk_steps, lk_steps]; show s.steps + 1 + 1 + 2 + 2 ≤ _; omega)).mono ?_
    rintro e w5 ⟨rfl, h5⟩
    have H5 := hid h5
    clear h5 H4
    obtain ⟨z, hz⟩ : ∃ z, z = wasS s n c d := ⟨_, rfl⟩
    rw [show getS (lkS (lkS (tk (tk s 1) 1) n 2 c) n 3 d) n 4 = z from hz.symm]
    rw [← hz] at Q1
    clear hz
    have S := hid (setT n 4 (y + 1) H5.out (by show (lkS _ _ _ _).steps + 1 ≤ _; rw [lk_steps, lk_steps]; show s.steps + 1 + 1 + 2 + 2 + 1 ≤ _; omega))
    generalize mayS (tk (lkS (lkS (tk (tk s 1) 1) n 2 c) n 3 d) 1) n 4 = m1 at S
    go_wp2_with fail
    refine S.out.mono ?_
    rintro e w6 ⟨rfl, h6⟩
    have H6 := hid h6
    clear h6 H5 S
    go_wp2
    go_ret
    rw [Q1.out, Q2.out]
    exact ⟨ret_bool (by simp [bne]), H6.out⟩

/-- which node is on top, and the other -/
def topS (s : St) (r t : Int) : Int := if nbS s t r = true then t else r
def othS (s : St) (r t : Int) : Int := if nbS s t r = true then r else t
/-- meld, at most so many levels down -/
def meldS : Nat → St → Int → Int → Int × St
  | 0, s, r, _ => (r, s)
  | n + 1, s, r, t =>
    if t = -1 ∨ r = t then (r, s) else if r = -1 then (t, s) else
      (topS s r t, leanS (meldS n (tk s 10) (rcS s (topS s r t)) (othS s r t)).2 (topS s r t) (lcS s (topS s r t)) (meldS n (tk s 10) (rcS s (topS s r t)) (othS s r t)).1)
/-- so many are enough, and no Rank is too great -/
def mOk : Nat → St → Int → Int → Prop
  | 0, _, _, _ => False
  | n + 1, s, r, t =>
    (t = -1 ∨ r = t) ∨ r = -1 ∨ (mOk n (tk s 10) (rcS s (topS s r t)) (othS s r t) ∧
      rkS (meldS n (tk s 10) (rcS s (topS s r t)) (othS s r t)).2 (lcS s (topS s r t)) < 1000000 ∧
      rkS (meldS n (tk s 10) (rcS s (topS s r t)) (othS s r t)).2 (meldS n (tk s 10) (rcS s (topS s r t)) (othS s r t)).1 < 1000000)
theorem meld_steps : ∀ (n : Nat) (s : St) (r t : Int), (meldS n s r t).2.steps ≤ s.steps + 18 * n
  | 0, s, r, t => by show s.steps ≤ _; omega
  | n + 1, s, r, t => by
    unfold meldS
    split
    · show s.steps ≤ _; omega
    · split
      · show s.steps ≤ _; omega
      · rw [lean_steps]
        have := meld_steps n (tk s 10) (rcS s (topS s r t)) (othS s r t)
        have e : (tk s 10).steps = s.steps + 10 := rfl
        omega
theorem meld_cl : ∀ (n : Nat) (s : St) (r t : Int), Cl r → Cl t → Cl (meldS n s r t).1
  | 0, s, r, t => fun h _ => h
  | n + 1, s, r, t => fun h1 h2 => by
    unfold meldS
    split
    · exact h1
    · split
      · exact h2
      · show Cl (topS s r t)
        unfold topS; split <;> assumption

set_option maxHeartbeats 1000000 in
theorem meldT : ∀ (n : Nat) (s : St) (r t : Int) (w0 w : World), mOk n s r t → Cl r → Cl t → s.most ≤ 65536 → Ex F w0 w pa pm s → s.steps + 18 * n ≤ 99999000 →
    Calls Tryz.prog 55 #[.pointer (some ⟨pa, 0, none⟩), .int .i64 r, .int .i64 t] w fun e w' => e = .returned (.int .i64 (meldS n s r t).1) ∧ Ex F w0 w' pa pm (meldS n s r t).2
  | 0, s, r, t, w0, w => fun h => h.elim
  | n + 1, s, r, t, w0, w => fun hok hr ht hm h hs => by
    have IH := hid (meldT n)
    by_cases c1 : t = -1
    · subst c1
      have Q := hid (show meldS (n + 1) s r (-1) = (r, s) by unfold meldS; rw [if_pos (Or.inl rfl)])
      have HH := hid h
      clear h hok hr ht
      go_enter Tryz.func55, Tryz.ntmps55
      go_wp2
      go_ret
      rw [Q.out]
      exact ⟨rfl, HH.out⟩
    · by_cases c2 : r = t
      · subst c2
        have Q := hid (show meldS (n + 1) s r r = (r, s) by unfold meldS; rw [if_pos (Or.inr rfl)])
        have HH := hid h
        have c1' : (r == -1) = false := by simp [c1]
        clear h hok hr ht
        go_enter Tryz.func55, Tryz.ntmps55
        go_wp2
        go_ret
        rw [Q.out]
        exact ⟨rfl, HH.out⟩
      · have c1' : (t == -1) = false := by simp [c1]
        have c2' : (r == t) = false := by simp [c2]
        by_cases c3 : r = -1
        · subst c3
          have Q := hid (show meldS (n + 1) s (-1) t = (t, s) by unfold meldS; rw [if_neg (by intro z; rcases z with z | z; exact c1 z; exact c2 z), if_pos rfl])
          have HH := hid h
          clear h hok hr ht
          have c4 : ((-1 : Int) == t) = false := by simpa using c2'
          go_enter Tryz.func55, Tryz.ntmps55
          go_wp2
          go_ret
          rw [Q.out]
          exact ⟨rfl, HH.out⟩
        · have c3' : (r == -1) = false := by simp [c3]
          obtain ⟨k1, k2, k3⟩ : mOk n (tk s 10) (rcS s (topS s r t)) (othS s r t) ∧
              rkS (meldS n (tk s 10) (rcS s (topS s r t)) (othS s r t)).2 (lcS s (topS s r t)) < 1000000 ∧
              rkS (meldS n (tk s 10) (rcS s (topS s r t)) (othS s r t)).2 (meldS n (tk s 10) (rcS s (topS s r t)) (othS s r t)).1 < 1000000 := by
            unfold mOk at hok
            rcases hok with (z | z) | z | z
            · exact absurd z c1
            · exact absurd z c2
            · exact absurd z c3
            · exact z
          have Q := hid (show meldS (n + 1) s r t = (topS s r t, leanS (meldS n (tk s 10) (rcS s (topS s r t)) (othS s r t)).2 (topS s r t) (lcS s (topS s r t)) (meldS n (tk s 10) (rcS s (topS s r t)) (othS s r t)).1) by
            rw [meldS, if_neg (by intro z; rcases z with z | z; exact c1 z; exact c2 z), if_neg c3])
          have B := hid (nbeforeT t r h (by omega))
          have T1 := hid (show Cl (topS s r t) by unfold topS; split <;> assumption)
          have T2 := hid (show Cl (othS s r t) by unfold othS; split <;> assumption)
          have hm1 := hid hm
          have E1 := hid (show topS s r t = if nbS s t r = true then t else r from rfl)
          have E2 := hid (show othS s r t = if nbS s t r = true then r else t from rfl)
          generalize topS s r t = x at *
          generalize othS s r t = y at *
          have K1 := hid k1
          have K2 := hid k2
          have K3 := hid k3
          clear h hok hr ht k1 k2 k3 hm
          obtain ⟨b, hb⟩ : ∃ b, b = nbS s t r := ⟨_, rfl⟩
          rw [← hb] at B E1 E2
          clear hb
          cases b
          · obtain rfl : x = r := E1.out.trans (if_neg (by decide))
            obtain rfl : y = t := E2.out.trans (if_neg (by decide))
            clear E1 E2
            go_enter Tryz.func55, Tryz.ntmps55
            go_wp2_with fail
            refine B.out.mono ?_
            rintro e w1 ⟨rfl, h1⟩
            have H1 := hid h1
            clear h1 B
            go_wp2_with fail
            refine (childrenT x H1.out (by show s.steps + 6 ≤ _; omega)).mono ?_
            rintro e w2 ⟨rfl, h2⟩
            have H2 := hid h2
            clear h2 H1
            have C1 := hid (Cl.lc s x hm1.out)
            have C2 := hid (Cl.rc s x hm1.out)
            rw [show lcS (tk s 6) x = lcS s x from rfl, show rcS (tk s 6) x = rcS s x from rfl]
            generalize lcS s x = c at *
            generalize rcS s x = d at *
            have M := hid (IH.out (tk s 10) d y w0 w2 K1.out C2.out T2.out hm1.out H2.out (by show s.steps + 10 + 18 * n ≤ _; omega))
            have ST := hid (meld_steps n (tk s 10) d y)
            have C3 := hid (meld_cl n (tk s 10) d y C2.out T2.out)
            generalize meldS n (tk s 10) d y = mm at *
            obtain ⟨m, s3⟩ := mm
            go_wp2_with fail
            refine M.out.mono ?_
            rintro e w3 ⟨rfl, h3⟩
            have L := hid (leanT x c m T1.out C1.out C3.out K2.out K3.out h3 (by have := ST.out; have e : (tk s 10).steps = s.steps + 10 := rfl; omega))
            clear h3 H2 M
            generalize leanB s3 x c m = lb at L
            go_wp2_with fail
            refine L.out.mono ?_
            rintro e w4 ⟨rfl, h4⟩
            have H4 := hid h4
            clear h4 L
            go_wp2
            go_ret
            rw [Q.out]
            exact ⟨rfl, H4.out⟩
          · obtain rfl : x = t := E1.out.trans (if_pos rfl)
            obtain rfl : y = r := E2.out.trans (if_pos rfl)
            clear E1 E2
            go_enter Tryz.func55, Tryz.ntmps55
            go_wp2_with fail
            refine B.out.mono ?_
            rintro e w1 ⟨rfl, h1⟩
            have H1 := hid h1
            clear h1 B
            go_wp2_with fail
            refine (childrenT x H1.out (by show s.steps + 6 ≤ _; omega)).mono ?_
            rintro e w2 ⟨rfl, h2⟩
            have H2 := hid h2
            clear h2 H1
            have C1 := hid (Cl.lc s x hm1.out)
            have C2 := hid (Cl.rc s x hm1.out)
            rw [show lcS (tk s 6) x = lcS s x from rfl, show rcS (tk s 6) x = rcS s x from rfl]
            generalize lcS s x = c at *
            generalize rcS s x = d at *
            have M := hid (IH.out (tk s 10) d y w0 w2 K1.out C2.out T2.out hm1.out H2.out (by show s.steps + 10 + 18 * n ≤ _; omega))
            have ST := hid (meld_steps n (tk s 10) d y)
            have C3 := hid (meld_cl n (tk s 10) d y C2.out T2.out)
            generalize meldS n (tk s 10) d y = mm at *
            obtain ⟨m, s3⟩ := mm
            go_wp2_with fail
            refine M.out.mono ?_
            rintro e w3 ⟨rfl, h3⟩
            have L := hid (leanT x c m T1.out C1.out C3.out K2.out K3.out h3 (by have := ST.out; have e : (tk s 10).steps = s.steps + 10 := rfl; omega))
            clear h3 H2 M
            generalize leanB s3 x c m = lb at L
            go_wp2_with fail
            refine L.out.mono ?_
            rintro e w4 ⟨rfl, h4⟩
            have H4 := hid h4
            clear h4 L
            go_wp2
            go_ret
            rw [Q.out]
            exact ⟨rfl, H4.out⟩
end
end Go.Proofs.YtnkpopeahmjodaaGreat
