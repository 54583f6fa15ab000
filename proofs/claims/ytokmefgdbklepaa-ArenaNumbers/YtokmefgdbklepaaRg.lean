/- The document's arena: the walks of its Get, Cell, Set. -/
import Derived.Test.YtokmefgdbklepaaRf
namespace Go.Proofs.Ytokmefgdbklepaa
open Go.ChangeShapes Go.WideShapes Go.ChangeAt Go.RowKit

theorem may_low {s : St} {c f : Int} (h : f < 0) : mayS s c f = false := by unfold mayS; simp; omega
theorem may_high {s : St} {c f : Int} (h : 10 ≤ f) : mayS s c f = false := by unfold mayS; simp; omega
theorem may_mid {s : St} {c f : Int} (hl : liveS s c = true) (h0 : 0 ≤ f) (h1 : f < 10) : mayS s c f = true := by unfold mayS; rw [hl]; simp; omega

set_option maxHeartbeats 2000000 in
theorem getR (pr : Nat) (s : St) (F : Nat → Prop) (c f : Int) (w : World) (h : IsR w F pr s) (hs : s.steps ≤ 1000000) :
    Calls Try.prog 25 #[.pointer (some ⟨pr, 0, none⟩), .int .i64 c, .int .i64 f] w fun e w' => e = .returned (.int .i64 (getS s c f)) ∧ IsR w' F pr (tick s) ∧ Kept F w w' := by
  obtain ⟨hpr, h4, hz, -⟩ := h.steps
  have T := hid h.ticked
  clear h
  go_enter Try.func25, Try.ntmps25
  go_wp2_with fail
  refine (liveR pr (tick s) F c _ T.out.1).mono ?_
  rw [live_tick]
  rintro e w1 ⟨rfl, rfl⟩
  clear h4 hz
  cases hl : liveS s c with
  | false =>
    have H := hid (get_no (may_not (f := f) hl))
    clear hl
    go_wp2
    go_ret
    exact ⟨ret_int H.out.symm, T.out⟩
  | true =>
    by_cases c1 : f < 0
    · have H := hid (get_no (may_low (s := s) (c := c) c1))
      clear hl
      go_wp2
      go_ret
      exact ⟨ret_int H.out.symm, T.out⟩
    · have c1' : decide (f < 0) = false := by simp; omega
      by_cases c2 : 10 ≤ f
      · have H := hid (get_no (may_high (s := s) (c := c) c2))
        clear hl c1
        go_wp2
        go_ret
        exact ⟨ret_int H.out.symm, T.out⟩
      · have c2' : decide (10 ≤ f) = false := by simp; omega
        have hm := may_mid hl (by omega) (show f < 10 by omega)
        have H := hid (get_yes hm)
        obtain ⟨hc0, x, hx⟩ := live_iff.1 hl
        obtain ⟨fv, iv, bv, gs, hr, f1, f2, f3, f4, f5, f6, ok⟩ := T.out.1
        have hx' : (tick s).pl[c.toNat]? = some (x, true) := hx
        obtain ⟨g, hg, hgb⟩ := hr.at' hx'
        obtain ⟨b, cap, rfl, hb, _, hbc⟩ := own1_at hr.fs sl10_len hg
        replace hbc := hbc.trans (show (sl10 g)[0]? = some (.slice (some ⟨g, 0, none⟩) 10 10) from rfl)
        obtain ⟨hp', k0, k1, k2, k3, k4⟩ := hr.fields
        have hlt : c.toNat < gs.length := (List.getElem?_eq_some_iff.1 hg).1
        have hlen : gs.length ≤ 65536 := by rw [hr.len]; exact Nat.le_trans ok.fits ok.top
        have hcc : (w.setCell ⟨pr, 4, none⟩ (.int .i64 ((s.steps : Int) + 1))).cell? ⟨g, f.toNat, none⟩ = some (.int .i64 (x f.toNat)) := blk_cell hgb (by simpa using ten_get (x, true) f.toNat (by omega))
        have hgl := lt_of_block hgb
        have HX := hid (has_of hx)
        have hcl : c < (gs.length : Int) := by omega
        have hf0 : 0 ≤ f := by omega
        have hf1 : f < 10 := by omega
        clear hr k0 k2 k3 k4 f1 f2 f3 f4 f5 f6 ok hx hx' hl hm hg hgb hlt c1 c2
        generalize w.setCell ⟨pr, 4, none⟩ (.int .i64 ((s.steps : Int) + 1)) = w2 at *
        go_wp2
        go_ret
        exact ⟨ret_int (by rw [H.out, HX.out]), T.out⟩

set_option maxHeartbeats 2000000 in
theorem cellR (pr : Nat) (s : St) (F : Nat → Prop) (c f : Int) (w : World) (h : IsR w F pr s) (hs : s.steps ≤ 1000000) :
    Calls Try.prog 26 #[.pointer (some ⟨pr, 0, none⟩), .int .i64 c, .int .i64 f] w fun e w' => e = .returned (.int .i64 (cellS s c f)) ∧ IsR w' F pr (tick s) ∧ Kept F w w' := by
  have IS := hid h
  have ht := h.ok.top
  clear h
  go_enter Try.func26, Try.ntmps26
  go_wp2_with fail
  refine (getR pr s F c f w IS.out hs).mono ?_
  rintro e w1 ⟨rfl, h1, k1⟩
  have H2 := hid h1
  have K2 := hid k1
  clear h1 k1 IS
  have hn := hid (cell_no (s := s) (c := c) (f := f))
  have hy := hid (cell_yes (s := s) (c := c) (f := f))
  generalize getS s c f = v at *
  obtain ⟨hpa, -, -, h0⟩ := H2.out.steps
  replace h0 : w1.cell? ⟨pr, 0, none⟩ = some (.int .i64 s.most) := h0
  by_cases c1 : v < 0
  · have HN := hid (hn.out (by omega))
    clear hn hy h0
    go_wp2
    go_ret
    exact ⟨ret_int HN.out.symm, H2.out, K2.out⟩
  · have c1' : decide (v < 0) = false := by simp; omega
    by_cases c2 : (s.most : Int) ≤ v
    · have HN := hid (hn.out (by omega))
      clear hn hy c1
      go_wp2
      go_ret
      exact ⟨ret_int HN.out.symm, H2.out, K2.out⟩
    · have HY := hid (hy.out (by omega))
      have c2' : decide ((s.most : Int) ≤ v) = false := by simp; omega
      have hv1 : v ≤ 65536 := by omega
      have hv0 : 0 ≤ v := by omega
      clear hn hy c1 c2
      go_wp2
      go_ret
      exact ⟨ret_int HY.out.symm, H2.out, K2.out⟩

set_option maxHeartbeats 2000000 in
theorem setR (pr : Nat) (s : St) (F : Nat → Prop) (c f v : Int) (w : World) (h : IsR w F pr s) (hs : s.steps ≤ 1000000) :
    Calls Try.prog 24 #[.pointer (some ⟨pr, 0, none⟩), .int .i64 c, .int .i64 f, .int .i64 v] w fun e w' => e = .returned (.bool (mayS s c f)) ∧ IsR w' F pr (setS s c f v) ∧ Kept F w w' := by
  have OK := hid (h.ok.set (c := c) (f := f) (v := v))
  obtain ⟨hpr, h4, hz, -⟩ := h.steps
  have T := hid h.ticked
  clear h
  go_enter Try.func24, Try.ntmps24
  go_wp2_with fail
  refine (liveR pr (tick s) F c _ T.out.1).mono ?_
  rw [live_tick]
  rintro e w1 ⟨rfl, rfl⟩
  clear h4 hz
  cases hl : liveS s c with
  | false =>
    have M := hid (may_not (f := f) hl)
    clear hl
    go_wp2
    go_ret
    rw [set_no M.out]
    exact ⟨ret_bool M.out.symm, T.out⟩
  | true =>
    by_cases c1 : f < 0
    · have M := hid (may_low (s := s) (c := c) c1)
      clear hl
      go_wp2
      go_ret
      rw [set_no M.out]
      exact ⟨ret_bool M.out.symm, T.out⟩
    · have c1' : decide (f < 0) = false := by simp; omega
      by_cases c2 : 10 ≤ f
      · have M := hid (may_high (s := s) (c := c) c2)
        clear hl c1
        go_wp2
        go_ret
        rw [set_no M.out]
        exact ⟨ret_bool M.out.symm, T.out⟩
      · have c2' : decide (10 ≤ f) = false := by simp; omega
        have hm := may_mid hl (by omega) (show f < 10 by omega)
        obtain ⟨hc0, x, hx⟩ := live_iff.1 hl
        have E := hid (set_yes (v := v) hm hx)
        have M := hid hm
        obtain ⟨fv, iv, bv, gs, hr, f1, f2, f3, f4, f5, f6, ok⟩ := T.out.1
        have hx' : (tick s).pl[c.toNat]? = some (x, true) := hx
        obtain ⟨g, hg, hgb⟩ := hr.at' hx'
        obtain ⟨b, cap, rfl, hb, _, hbc⟩ := own1_at hr.fs sl10_len hg
        replace hbc := hbc.trans (show (sl10 g)[0]? = some (.slice (some ⟨g, 0, none⟩) 10 10) from rfl)
        obtain ⟨hp', k0, k1, k2, k3, k4⟩ := hr.fields
        have hlt : c.toNat < gs.length := (List.getElem?_eq_some_iff.1 hg).1
        have hlen : gs.length ≤ 65536 := by rw [hr.len]; exact Nat.le_trans ok.fits ok.top
        have hcc : (w.setCell ⟨pr, 4, none⟩ (.int .i64 ((s.steps : Int) + 1))).cell? ⟨g, f.toNat, none⟩ = some (.int .i64 (x f.toNat)) := blk_cell hgb (by simpa using ten_get (x, true) f.toNat (by omega))
        have hgl := lt_of_block hgb
        have hfz := blk_free (j := f.toNat) hgb
        have RR := hid (hr.stored hx' hg (show f.toNat < 10 by omega) v)
        have hcl : c < (gs.length : Int) := by omega
        have hf0 : 0 ≤ f := by omega
        have hf1 : f < 10 := by omega
        have KK := hid T.out.2
        have FG := hid (f5 g (List.mem_of_getElem? hg))
        have F2 := hid f2
        have F3 := hid f3
        have F4 := hid f4
        have F5 := hid f5
        have F6 := hid f6
        clear hr k0 k2 k3 k4 f2 f3 f4 f5 f6 ok hx hx' hl hm hg hgb hlt c1 c2 T
        generalize w.setCell ⟨pr, 4, none⟩ (.int .i64 ((s.steps : Int) + 1)) = w2 at *
        go_wp2
        go_ret
        have hOK := OK.out
        rw [E.out] at hOK ⊢
        exact ⟨ret_bool M.out.symm, ⟨_, _, _, _, RR.out, f1, F2.out, F3.out, F4.out, F5.out, fun k hk => by simpa [World.setCell] using F6.out k hk, hOK⟩, KK.out.setCell (p := ⟨g, f.toNat, none⟩) (Or.inl FG.out) _⟩
end Go.Proofs.Ytokmefgdbklepaa
