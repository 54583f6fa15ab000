/- Leftist heaps: item.Put, Push. -/
import Derived.Test.YtnkpopeahmjodaaGreatLj
namespace Go.Proofs.YtnkpopeahmjodaaGreat
open Go.ChangeShapes Go.WideShapes Go.ChangeAt Go.RowKit

section
variable {F : Nat → Prop} {w0 w w' : World} {pa pm : Nat} {s s' : St}
set_option maxHeartbeats 1000000 in
theorem noneLiveT (c : Int) (hc : c ≠ -1) (hl : liveS s c = true) (h : Ex F w0 w pa pm s) : Calls Tryz.prog 83 #[.pointer (some ⟨pa, 0, none⟩), .int .i64 c] w fun e w' => e = .returned (.bool true) ∧ w' = w := by
  have L := hid (liveT c h)
  rw [hl] at L
  clear h hl
  have hne : (c == -1) = false := by simp [hc]
  go_enter Tryz.func83, Tryz.ntmps83
  go_wp2_with fail
  refine L.out.mono ?_
  rintro e w1 ⟨rfl, rfl⟩
  go_wp2
  go_ret
  exact ⟨rfl, rfl⟩

set_option maxHeartbeats 1000000 in
theorem ilinkT (c i : Int) (hc : Cl c) (hi : Cl i) (h : Ex F w0 w pa pm s) (hs : s.steps ≤ 99999990) :
    Calls Tryz.prog 84 #[.pointer (some ⟨pa, 0, none⟩), .int .i64 c, .int .i64 i] w fun e w' => e = .returned (.tuple #[]) ∧ Ex F w0 w' pa pm (setS (setS s c 6 i) i 9 c) := by
  have C := hid (setT c 6 i h (by omega))
  clear h
  obtain ⟨hn0, hn1⟩ := hc
  obtain ⟨hc0, hc1⟩ := hi
  generalize hm : mayS s c 6 = m1 at C
  clear hm
  go_enter Tryz.func84, Tryz.ntmps84
  go_wp2_with fail
  refine C.out.mono ?_
  rintro e w1 ⟨rfl, h1⟩
  have H1 := hid h1
  clear h1 C
  have C := hid (setT i 9 c H1.out (by rw [set_steps]; omega))
  generalize hm : mayS (setS s c 6 i) i 9 = m2 at C
  clear hm
  go_wp2_with fail
  refine C.out.mono ?_
  rintro e w2 ⟨rfl, h2⟩
  have H2 := hid h2
  clear h2 H1
  go_wp2
  go_end0
  exact ⟨rfl, H2.out⟩

set_option maxHeartbeats 1000000 in
theorem putT (c i : Int) (hc : Cl c) (hi : Cl i) (hc1 : c ≠ -1) (hi1 : i ≠ -1) (lc : liveS s c = true) (li : liveS s i = true) (h : Ex F w0 w pa pm s) (hs : s.steps ≤ 99999990) :
    Calls Tryz.prog 74 #[.pointer (some ⟨pa, 0, none⟩), .int .i64 c, .int .i64 i] w fun e w' => e = .returned (.tuple #[]) ∧ Ex F w0 w' pa pm (setS (setS s c 6 i) i 9 c) := by
  have L1 := hid (noneLiveT c hc1 lc h)
  have L2 := hid (noneLiveT i hi1 li h)
  have L3 := hid (ilinkT c i hc hi h hs)
  clear h hc hi hc1 hi1 lc li
  go_enter Tryz.func74, Tryz.ntmps74
  go_wp2_with fail
  refine L1.out.mono ?_
  rintro e w1 ⟨rfl, rfl⟩
  go_wp2_with fail
  refine L2.out.mono ?_
  rintro e w2 ⟨rfl, rfl⟩
  go_wp2_with fail
  refine L3.out.mono ?_
  rintro e w3 ⟨rfl, h3⟩
  have H3 := hid h3
  clear h3
  go_wp2
  go_end0
  exact ⟨rfl, H3.out⟩

/-- Push, ahead of its meld: k steps later -/
def puS (s : St) (i : Int) : St := setS (setS (setS (takeS (tk s 1)) (nextS s) 6 i) i 9 (nextS s)) (nextS s) 4 1
theorem pu_steps (s : St) (i : Int) : (puS s i).steps = s.steps + 5 := by unfold puS; rw [set_steps, set_steps, set_steps, take_steps]; rfl
theorem take_most (s : St) : (takeS s).most = s.most := by unfold takeS; split; rfl; split <;> rfl
theorem pu_most (s : St) (i : Int) : (puS s i).most = s.most := by unfold puS; rw [set_most, set_most, set_most, take_most]; rfl
theorem next_cl {s : St} (h : Ok s) : Cl (nextS s) := by
  have h1 := h.top
  have h2 := h.fits
  unfold nextS
  split
  · rename_i a ha
    obtain ⟨x, hx⟩ := h.free a (List.mem_of_getLast? ha)
    have : a < s.pl.length := (List.getElem?_eq_some_iff.1 hx).1
    exact ⟨by omega, by omega⟩
  · split
    · exact Cl.none
    · exact ⟨by omega, by omega⟩

set_option maxHeartbeats 1000000 in
theorem nnewT_no (i : Int) (hl : liveS s i = true) (hn : cellS s i 9 = -1) (hx : ¬ 0 ≤ nextS s) (h : Aft F w0 w pa pm s) (hs : s.steps ≤ 99999000) :
    Calls Tryz.prog 54 #[.pointer (some ⟨pa, 0, none⟩), .int .i64 i] w fun e w' => e = .returned (.tuple #[.int .i64 (-1), .bool false]) ∧ Aft F w0 w' pa pm (takeS (tk s 1)) := by
  have HH := hid h
  have L := hid (liveT i h.ex)
  rw [hl] at L
  have C := hid (nodeT i h.ex (by omega))
  rw [hn] at C
  have Q1 := hid (show decide (0 ≤ nextS (tk s 1)) = false by show decide (0 ≤ nextS s) = false; simp; omega)
  have Q2 := hid (show nextS (tk s 1) = -1 from next_neg hx)
  clear h hl hn hx
  go_enter Tryz.func54, Tryz.ntmps54
  go_wp2_with fail
  refine L.out.mono ?_
  rintro e w1 ⟨rfl, rfl⟩
  go_wp2_with fail
  refine C.out.mono ?_
  rintro e w2 ⟨rfl, h2⟩
  have H2 := hid (HH.out.back h2)
  clear h2 C L HH
  have T := hid (takeT H2.out (by show s.steps + 1 ≤ _; omega))
  rw [Q1.out, Q2.out] at T
  go_wp2_with fail
  refine T.out.mono ?_
  rintro e w3 ⟨rfl, h3⟩
  have H3 := hid h3
  clear h3 T H2
  go_wp2
  go_ret2
  exact ⟨rfl, H3.out⟩

set_option maxHeartbeats 1000000 in
theorem nnewT (i : Int) (hl : liveS s i = true) (hn : cellS s i 9 = -1) (hx : 0 ≤ nextS s) (hl1 : liveS (takeS (tk s 1)) (nextS s) = true) (hl2 : liveS (takeS (tk s 1)) i = true) (hi : Cl i) (hi1 : i ≠ -1) (h : Aft F w0 w pa pm s) (hs : s.steps ≤ 99999000) :
    Calls Tryz.prog 54 #[.pointer (some ⟨pa, 0, none⟩), .int .i64 i] w fun e w' => e = .returned (.tuple #[.int .i64 (nextS s), .bool true]) ∧ Aft F w0 w' pa pm (setS (setS (takeS (tk s 1)) (nextS s) 6 i) i 9 (nextS s)) := by
  have HH := hid h
  have L := hid (liveT i h.ex)
  rw [hl] at L
  have C := hid (nodeT i h.ex (by omega))
  rw [hn] at C
  have Q1 := hid (show decide (0 ≤ nextS (tk s 1)) = true by show decide (0 ≤ nextS s) = true; simp; omega)
  have Q2 := hid (show nextS (tk s 1) = nextS s from rfl)
  have CN := hid (next_cl h.is.ok)
  have N1 := hid (show nextS s ≠ -1 by omega)
  have CI := hid hi
  have L1 := hid hl1
  have L2 := hid hl2
  clear h hl hn hx hi hl1 hl2
  generalize nextS s = n at *
  go_enter Tryz.func54, Tryz.ntmps54
  go_wp2_with fail
  refine L.out.mono ?_
  rintro e w1 ⟨rfl, rfl⟩
  go_wp2_with fail
  refine C.out.mono ?_
  rintro e w2 ⟨rfl, h2⟩
  have H2 := hid (HH.out.back h2)
  clear h2 C L HH
  have T := hid (takeT H2.out (by show s.steps + 1 ≤ _; omega))
  rw [Q1.out, Q2.out] at T
  go_wp2_with fail
  refine T.out.mono ?_
  rintro e w3 ⟨rfl, h3⟩
  have H3 := hid h3
  clear h3 T H2
  go_wp2_with fail
  refine (putT n i CN.out CI.out N1.out hi1 L1.out L2.out H3.out.ex (by rw [take_steps]; show s.steps + 1 + 1 ≤ _; omega)).mono ?_
  rintro e w4 ⟨rfl, h4⟩
  have H4 := hid (H3.out.back h4)
  clear h4 H3
  go_wp2
  go_ret2
  exact ⟨rfl, H4.out⟩

set_option maxHeartbeats 1000000 in
theorem pushT_no (r i : Int) (hl : liveS s i = true) (hn : cellS s i 9 = -1) (hx : ¬ 0 ≤ nextS s) (h : Aft F w0 w pa pm s) (hs : s.steps ≤ 99999000) :
    Calls Tryz.prog 34 #[.pointer (some ⟨pa, 0, none⟩), .int .i64 r, .int .i64 i] w fun e w' => e = .returned (.tuple #[.int .i64 r, .bool false]) ∧ Aft F w0 w' pa pm (takeS (tk s 1)) := by
  have T := hid (nnewT_no i hl hn hx h hs)
  clear h hl hn hx
  go_enter Tryz.func34, Tryz.ntmps34
  go_wp2_with fail
  refine T.out.mono ?_
  rintro e w3 ⟨rfl, h3⟩
  have H3 := hid h3
  clear h3 T
  go_wp2
  go_ret2
  exact ⟨rfl, H3.out⟩

set_option maxHeartbeats 1000000 in
theorem pushT (km : Nat) (r i : Int) (hl : liveS s i = true) (hn : cellS s i 9 = -1) (hx : 0 ≤ nextS s) (hl1 : liveS (takeS (tk s 1)) (nextS s) = true) (hl2 : liveS (takeS (tk s 1)) i = true) (hi : Cl i) (hi1 : i ≠ -1) (hr : Cl r)
    (hme : ∀ k, mOk km (tk (puS s i) k) (rootS (puS s i) r) (nextS s)) (h : Aft F w0 w pa pm s) (hs : s.steps + 18 * km ≤ 99990000) :
    Calls Tryz.prog 34 #[.pointer (some ⟨pa, 0, none⟩), .int .i64 r, .int .i64 i] w fun e w' => ∃ k, k ≤ 3 ∧ e = .returned (.tuple #[.int .i64 (meldS km (tk (puS s i) k) (rootS (puS s i) r) (nextS s)).1, .bool true]) ∧ Aft F w0 w' pa pm (meldS km (tk (puS s i) k) (rootS (puS s i) r) (nextS s)).2 := by
  have T := hid (nnewT i hl hn hx hl1 hl2 hi hi1 h (by omega))
  have CN := hid (next_cl h.is.ok)
  have hm := h.is.ok.top
  have HR := hid hr
  have HM := hid hme
  have ST := hid (pu_steps s i)
  have MO := hid (show (puS s i).most ≤ 65536 by rw [pu_most]; exact hm)
  have PU := hid (show setS (setS (setS (takeS (tk s 1)) (nextS s) 6 i) i 9 (nextS s)) (nextS s) 4 1 = puS s i from rfl)
  clear h hl hn hx hi hr hme hl1 hl2 hm
  generalize puS s i = sp at *
  generalize nextS s = n at *
  generalize hx : rootS sp r = x at *
  have HX := hid hx
  have CR := hid (hx ▸ Cl.root sp HR.out)
  clear hx
  go_enter Tryz.func34, Tryz.ntmps34
  go_wp2_with fail
  refine T.out.mono ?_
  rintro e w4 ⟨rfl, h4⟩
  have H4 := hid h4
  clear h4 T
  have S := hid (setT n 4 1 H4.out.ex (by rw [set_steps, set_steps, take_steps]; show s.steps + 1 + 1 + 1 + 1 ≤ _; omega))
  rw [PU.out] at S
  generalize mayS (setS (setS (takeS (tk s 1)) n 6 i) i 9 n) n 4 = m1 at S
  go_wp2_with fail
  refine S.out.mono ?_
  rintro e w5 ⟨rfl, h5⟩
  have H5 := hid (H4.out.back h5)
  clear h5 H4 S
  have R := hid (rootT r H5.out.ex (by rw [ST.out]; omega))
  rw [HX.out] at R
  go_wp2_with fail
  refine R.out.mono ?_
  rintro e w6 ⟨rfl, k, hk, h6⟩
  have H6 := hid (H5.out.back h6)
  clear h6 H5 R
  go_wp2_with fail
  refine (meldT km (tk sp k) x n _ _ (HM.out k) CR.out CN.out MO.out H6.out.ex (by show sp.steps + k + _ ≤ _; rw [ST.out]; omega)).mono ?_
  rintro e w7 ⟨rfl, h7⟩
  have H7 := hid (H6.out.back h7)
  clear h7 H6
  generalize hme : meldS km (tk sp k) x n = me at *
  obtain ⟨m, s2⟩ := me
  have HE := hid hme
  clear hme
  go_wp2
  go_ret2
  exact ⟨k, hk, by rw [HE.out]; rfl, by rw [HE.out]; exact H7.out⟩
end
end Go.Proofs.YtnkpopeahmjodaaGreat
