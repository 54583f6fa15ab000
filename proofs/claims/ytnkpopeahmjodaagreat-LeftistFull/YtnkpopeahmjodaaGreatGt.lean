/- The arena: the walks of Get, Cell, Set, Give. -/
import Derived.Test.YtnkpopeahmjodaaGreatAr
namespace Go.Proofs.YtnkpopeahmjodaaGreat
open Go.ChangeShapes Go.WideShapes Go.ChangeAt Go.RowKit

set_option maxHeartbeats 1000000 in
theorem getA (pa pm : Nat) (s : St) (F : Nat → Prop) (c f : Int) (w : World) (h : IsA w F pa pm s) (hs : s.steps ≤ 100000000) :
    Calls Tryz.prog 57 #[.pointer (some ⟨pa, 0, none⟩), .int .i64 c, .int .i64 f] w fun e w' => e = .returned (.int .i64 (getS s c f)) ∧ IsA w' F pa pm (tick s) ∧ Kept F w w' := by
  have IS := hid h
  clear h
  go_enter Tryz.func57, Tryz.ntmps57
  go_wp2_with fail
  refine (stepA pa pm s F w IS.out hs).mono ?_
  rintro e w1 ⟨rfl, h1, k1⟩
  have H1 := hid h1
  have K1 := hid k1
  clear h1 k1 IS
  go_wp2_with fail
  refine (readA pa pm (tick s) F c f w1 H1.out).mono ?_
  rintro e w2 ⟨rfl, n, rfl⟩
  go_wp2
  go_ret
  exact ⟨rfl, H1.out.drewN n, K1.out.drewN n⟩

theorem cell_no {s : St} {c f : Int} (h : ¬ (0 ≤ getS s c f ∧ getS s c f < s.most)) : cellS s c f = -1 := by unfold cellS; rw [if_neg h]
theorem cell_yes {s : St} {c f : Int} (h : 0 ≤ getS s c f ∧ getS s c f < s.most) : cellS s c f = getS s c f := by unfold cellS; rw [if_pos h]

set_option maxHeartbeats 1000000 in
theorem cellA (pa pm : Nat) (s : St) (F : Nat → Prop) (c f : Int) (w : World) (h : IsA w F pa pm s) (hs : s.steps ≤ 100000000) :
    Calls Tryz.prog 44 #[.pointer (some ⟨pa, 0, none⟩), .int .i64 c, .int .i64 f] w fun e w' => e = .returned (.int .i64 (cellS s c f)) ∧ IsA w' F pa pm (tick s) ∧ Kept F w w' := by
  have IS := hid h
  have ht := h.ok.top
  clear h
  go_enter Tryz.func44, Tryz.ntmps44
  go_wp2_with fail
  refine (stepA pa pm s F w IS.out hs).mono ?_
  rintro e w1 ⟨rfl, h1, k1⟩
  have H1 := hid h1
  have K1 := hid k1
  clear h1 k1 IS
  go_wp2_with fail
  refine (readA pa pm (tick s) F c f w1 H1.out).mono ?_
  rintro e w2 ⟨rfl, n, rfl⟩
  have H2 := hid (H1.out.drewN n)
  have K2 := hid (K1.out.drewN n)
  clear H1 K1
  rw [get_tick]
  have hn := hid (cell_no (s := s) (c := c) (f := f))
  have hy := hid (cell_yes (s := s) (c := c) (f := f))
  generalize getS s c f = v at *
  obtain ⟨hpa, h0⟩ : pa < (w1.drewN n).heap.size ∧ (w1.drewN n).cell? ⟨pa, 0, none⟩ = some (.int .i64 s.most) := by
    obtain ⟨hv, tv, bv, hr, _⟩ := H2.out
    exact ⟨hr.cells.1, hr.cells.2.1⟩
  generalize w1.drewN n = w2 at *
  by_cases c1 : v < 0
  · have HN := hid (hn.out (by omega))
    clear hn hy h0
    go_wp2
    go_ret
    exact ⟨ret_int HN.out.symm, H2.out, K2.out⟩
  · have c1' : decide (v < 0) = false := by simp; omega
    by_cases c2 : (s.most : Int) ≤ v
    · have HN := hid (hn.out (by omega))
      clear hn hy c1
      go_wp2
      go_ret
      exact ⟨ret_int HN.out.symm, H2.out, K2.out⟩
    · have HY := hid (hy.out (by omega))
      have c2' : decide ((s.most : Int) ≤ v) = false := by simp; omega
      have hv1 : v ≤ 65536 := by omega
      have hv0 : 0 ≤ v := by omega
      clear hn hy c1 c2
      go_wp2
      go_ret
      exact ⟨ret_int HY.out.symm, H2.out, K2.out⟩

theorem set_no {s : St} {c f v : Int} (h : mayS s c f = false) : setS s c f v = tick s := by unfold setS; rw [h]; rfl
theorem set_yes {s : St} {c f v : Int} {x : ((Nat → Int) × Bool)} (h : mayS s c f = true) (hx : s.pl[c.toNat]? = some x) : setS s c f v = ⟨s.most, s.pl.set c.toNat (upd x.1 f.toNat v, true), s.back, s.steps + 1⟩ := by unfold setS; rw [if_pos h, has_of hx]

set_option maxHeartbeats 1000000 in
theorem setA (pa pm : Nat) (s : St) (F : Nat → Prop) (c f v : Int) (w : World) (h : IsA w F pa pm s) (hs : s.steps ≤ 100000000) :
    Calls Tryz.prog 53 #[.pointer (some ⟨pa, 0, none⟩), .int .i64 c, .int .i64 f, .int .i64 v] w fun e w' => e = .returned (.bool (mayS s c f)) ∧ IsA w' F pa pm (setS s c f v) ∧ Kept F w w' := by
  have IS := hid h
  clear h
  go_enter Tryz.func53, Tryz.ntmps53
  go_wp2_with fail
  refine (stepA pa pm s F w IS.out hs).mono ?_
  rintro e w1 ⟨rfl, h1, k1⟩
  have H1 := hid h1
  have K1 := hid k1
  clear h1 k1
  have M := hid (mayA pa pm (tick s) F c f w1 H1.out)
  cases hm : mayS s c f with
  | false =>
    have hm' : mayS (tick s) c f = false := hm
    have E := hid (set_no (v := v) hm)
    have hM := hid hm
    rw [hm'] at M
    clear hm hm' IS
    go_wp2_with fail
    refine M.out.mono ?_
    rintro e w2 ⟨rfl, rfl⟩
    go_wp2
    go_ret
    rw [E.out]
    exact ⟨ret_bool hM.out.symm, H1.out, K1.out⟩
  | true =>
    have hm' : mayS (tick s) c f = true := hm
    rw [hm'] at M
    obtain ⟨hl, hf0, hf9⟩ := may_yes hm
    obtain ⟨hc0, x, hx⟩ := live_iff.1 hl
    have E := hid (set_yes (v := v) hm hx)
    have OK := hid (IS.out.ok.set (c := c) (f := f) (v := v))
    have hlt : c.toNat < s.pl.length := (List.getElem?_eq_some_iff.1 hx).1
    have H1' := H1.out
    obtain ⟨hv, tv, bv, hr, f1, f2, f3, f4, f5, f6, ok⟩ := H1'
    obtain ⟨hpa, h0, h1, h2, h3, h4⟩ := hr.cells
    have hx' : (tick s).pl[c.toNat]? = some (x, true) := hx
    obtain ⟨g, cap, rfl, hg, hfz, hcell⟩ := hr.num (j := f.toNat) hx' (by omega)
    have hlen : s.pl.length ≤ 65536 := Nat.le_trans ok.fits ok.top
    have A := hid (fun w => atA c f hc0 (by omega) hf0 hf9 w)
    obtain ⟨o, ho⟩ : ∃ o : Int, c * 10 + f = o := ⟨_, rfl⟩
    have ho0 : 0 ≤ o := by omega
    have ho1 : o < ((s.pl.length * 10 : Nat) : Int) := by omega
    have OO := hid (show o.toNat = c.toNat * 10 + f.toNat by omega)
    have FF := hid (show f.toNat < 10 by omega)
    rw [← OO.out] at hcell
    rw [ho] at A
    have HR := hid hr
    have HX := hid hx'
    have hgp : g ≠ pa := fun e => own_ne_block hr.has hr.blk (by decide) (by rw [e]; rfl)
    have hpg : pa ≠ g := fun e => hgp e.symm
    replace h2 : w1.cell? ⟨pa, 2, none⟩ = some (.slice (some ⟨g, 0, none⟩) (s.pl.length * 10) cap) := h2
    obtain ⟨n, hn⟩ : ∃ n, n = s.pl.length * 10 := ⟨_, rfl⟩
    rw [← hn] at h2 ho1
    have hn' : n ≤ 655360 := by omega
    have HN := hid hn
    have HM := hid hm
    have F3 := hid f3
    have F6 := hid f6
    have hz := hfz o.toNat
    clear hr h0 h1 h3 h4 f3 f6 ok hx hx' hl hm hm' ho hlt hlen hn hc0 hf0 hf9 hfz H1 IS
    go_wp2_with fail
    refine M.out.mono ?_
    rintro e w2 ⟨rfl, rfl⟩
    go_wp2_with fail
    go_region_held3 (fun w' => w'.cell? ⟨pa, 2, none⟩ = some (.slice (some ⟨g, 0, none⟩) n cap)) (first | exact h2 | (simp [go_sem]; exact h2) | (simp [go_sem, hpg]; exact h2))
      (first
        | (go_at_call 73; refine (A.out _).mono ?_; rintro e w3 ⟨rfl, d, rfl⟩))
    go_wp2
    go_ret
    have R := (HR.out.plain ((Kept.refl _ _).drewN (1 + d))).stored HX.out FF.out OO.out v
    have hOK := OK.out
    rw [E.out] at hOK ⊢
    exact ⟨ret_bool HM.out.symm, ⟨_, _, _, R, f1, f2, F3.out, f4, f5, fun k hk => by simpa [World.setCell] using F6.out k hk, hOK⟩, (K1.out.drewN (1 + d)).setCell (p := ⟨g, o.toNat, none⟩) (Or.inl (F3.out g rfl)) _⟩

theorem give_no {s : St} {c : Int} (h : liveS s c = false) : giveS s c = tick s := by unfold giveS; rw [h]; rfl
theorem give_yes {s : St} {c : Int} {x : ((Nat → Int) × Bool)} (h : liveS s c = true) (hx : s.pl[c.toNat]? = some x) : giveS s c = ⟨s.most, s.pl.set c.toNat (x.1, false), s.back ++ [c.toNat], s.steps + 1⟩ := by unfold giveS; rw [if_pos h, has_of hx]
theorem info3 : (Tryz.prog.info? 3).map (fun i => (i.zero, i.size, i.bytes)) = some (some (.int .i64 0), 1, 8) := by kernel_rfl

section
variable {w w' : World} {F G : Nat → Prop} {pa pm : Nat} {hv tv bv : Value} {s s' : St}
/-- one more given back, laid by append and stored -/
theorem RawA.backed {W w1 : World} {g cap a : Nat} (h : RawA w pa pm hv tv bv s) (f1 : F pa) (f2 : F pm) (f3 : ∀ k, hv.ownBlock = some k → F k) (f4 : ∀ k, tv.ownBlock = some k → F k) (f5 : ∀ k, bv.ownBlock = some k → F k) (f6 : ∀ k, F k → k < w.heap.size)
    (hW : Kept (fun _ => False) w W) (ho : w1.ownsRow 0 3 1 (.slice (some ⟨g, 0, none⟩) (s.back.length + 1) cap) (s.back.length + 1) (row nat1 s.back ++ nat1 a)) (hg : W.grownBy w1 bv.ownBlock) (hat : bv.ownBlock = some g ∨ g = W.heap.size) (hlt : g < w1.heap.size) :
    RawA (w1.setCell ⟨pa, 4, none⟩ (.slice (some ⟨g, 0, none⟩) (s.back.length + 1) cap)) pa pm hv tv (.slice (some ⟨g, 0, none⟩) (s.back.length + 1) cap) ⟨s.most, s.pl, s.back ++ [a], s.steps⟩ ∧ Kept F w w1 ∧ (F g ∨ (w.heap.size ≤ g ∧ g < w1.heap.size)) := by
  have hk1 : Kept F w w1 := (hW.mono (fun _ e => e.elim)).grown hg (fun k hk => Or.inl (f5 k hk))
  have hsame : ∀ k, F k → bv.ownBlock ≠ some k → w1.heap[k]? = w.heap[k]? := fun k hF hk => (hg.block k (Nat.lt_of_lt_of_le (f6 k hF) hW.size) (fun e => hk e.symm)).trans (hW.block k (f6 k hF) fun e => e)
  have hpa := hsame pa f1 (own_ne_block h.back h.blk (by decide))
  have hpm := hsame pm f2 (own_ne_block h.back h.met (by decide))
  have hh : ∀ k, hv.ownBlock = some k → w1.heap[k]? = w.heap[k]? := fun k hk => hsame k (f3 k hk) (ne_of_own h.back h.has (by decide) hk)
  have ht : ∀ k, tv.ownBlock = some k → w1.heap[k]? = w.heap[k]? := fun k hk => hsame k (f4 k hk) (ne_of_own h.back h.tak (by decide) hk)
  have b1 := hpa.trans h.blk
  have b2 := hpm.trans h.met
  have o1 := own_same h.has hh
  have o2 := own_same h.tak ht
  refine ⟨⟨?_, blk_other b2 (fun e => h.ne e.symm), ownsRow_setCell_other o1 (own_ne_block o1 b1 (by decide)) _, ownsRow_setCell_other o2 (own_ne_block o2 b1 (by decide)) _, ?_⟩, hk1, ?_⟩
  · have := blk_set (j := 4) (u := .slice (some ⟨g, 0, none⟩) (s.back.length + 1) cap) b1
    simpa using this
  · have := ownsRow_setCell_other (a := ⟨pa, 4, none⟩) ho (own_ne_block ho b1 (by decide)) (.slice (some ⟨g, 0, none⟩) (s.back.length + 1) cap)
    simp only [row_snoc, List.length_append, List.length_cons, List.length_nil]
    simpa using this
  · rcases hat with q | q
    · exact Or.inl (f5 g q)
    · exact Or.inr ⟨by have := hW.size; omega, hlt⟩
end

set_option maxHeartbeats 2000000 in
theorem giveA (pa pm : Nat) (s : St) (F : Nat → Prop) (c : Int) (w : World) (h : IsA w F pa pm s) (hs : s.steps ≤ 100000000) :
    Calls Tryz.prog 25 #[.pointer (some ⟨pa, 0, none⟩), .int .i64 c] w fun e w' => e = .returned (.bool (liveS s c)) ∧ IsA w' (Grow F w w') pa pm (giveS s c) ∧ Kept F w w' := by
  have IS := hid h
  clear h
  go_enter Tryz.func25, Tryz.ntmps25
  go_wp2_with fail
  refine (stepA pa pm s F w IS.out hs).mono ?_
  rintro e w1 ⟨rfl, h1, k1⟩
  have H1 := hid h1
  have K1 := hid k1
  clear h1 k1
  have M := hid (liveA pa pm (tick s) F c w1 H1.out)
  cases hm : liveS s c with
  | false =>
    have hm' : liveS (tick s) c = false := hm
    have E := hid (give_no hm)
    have HM := hid hm
    rw [hm'] at M
    clear hm hm'
    go_wp2_with fail
    refine M.out.mono ?_
    rintro e w2 ⟨rfl, rfl⟩
    go_wp2
    go_ret
    rw [E.out]
    exact ⟨ret_bool HM.out.symm, H1.out.widen (fun _ e => Or.inl e) (Grow.lt IS.out.lt K1.out.size), K1.out⟩
  | true =>
    have hm' : liveS (tick s) c = true := hm
    rw [hm'] at M
    obtain ⟨hc0, x, hx⟩ := live_iff.1 hm
    have E := hid (give_yes hm hx)
    have OK := hid (IS.out.ok.give (c := c))
    have hlt : c.toNat < s.pl.length := (List.getElem?_eq_some_iff.1 hx).1
    have H1' := H1.out
    obtain ⟨hv, tv, bv, hr, f1, f2, f3, f4, f5, f6, ok⟩ := H1'
    have hx' : (tick s).pl[c.toNat]? = some (x, true) := hx
    obtain ⟨g, cap, rfl, hg, hfz, hcell⟩ := hr.mark hx'
    obtain ⟨hpa, h0, h1, h2, h3, h4⟩ := hr.cells
    obtain ⟨ba, bc, rfl⟩ := own_form hr.back
    have hlen : s.pl.length ≤ 65536 := Nat.le_trans ok.fits ok.top
    have hbl : s.back.length ≤ 65536 := Nat.le_trans ok.back_le hlen
    have hgp : g ≠ pa := fun e => own_ne_block hr.tak hr.blk (by decide) (by rw [e]; rfl)
    have hpg : pa ≠ g := fun e => hgp e.symm
    have hz := hfz c.toNat
    have hzp : w1.frozen? ⟨pa, 4, none⟩ = false := blk_free hr.blk
    replace h3 : w1.cell? ⟨pa, 3, none⟩ = some (.slice (some ⟨g, 0, none⟩) s.pl.length cap) := h3
    replace h4 : w1.cell? ⟨pa, 4, none⟩ = some (.slice ba s.back.length bc) := h4
    have hcl : c < (s.pl.length : Int) := by omega
    simp at hcell
    have HR := hid (hr.marked hx' false (m := 0) rfl)
    have KW := hid ((Kept.refl F w1).setCell (p := ⟨g, c.toNat, none⟩) (Or.inl (f4 g rfl)) (.int .i8 0))
    have CC := hid (show ((c.toNat : Nat) : Int) = c by omega)
    have HM := hid hm
    have F3 := hid f3
    have F4 := hid f4
    have F5 := hid f5
    have F6 := hid f6
    obtain ⟨ti, hti, hz0, hz1, hz2⟩ := info_parts info3
    have HT := hid hti
    have Z0 := hid hz0
    have Z1 := hid hz1
    have Z2 := hid hz2
    clear hr h0 h1 h2 f3 f4 f5 f6 ok hx hx' hm hm' hlt hfz hti hz0 hz1 hz2
    go_wp2_with fail
    refine M.out.mono ?_
    rintro e w2 ⟨rfl, rfl⟩
    clear M
    have hpx : (w2.setCell ⟨g, c.toNat, none⟩ (.int .i8 0)).heap[pa]? = w2.heap[pa]? := Below.heap_setCell _ _ _ _ hpg
    have hsz : (w2.setCell ⟨g, c.toNat, none⟩ (.int .i8 0)).heap.size = w2.heap.size := by simp [World.setCell]
    have HPX := hid hpx
    have HSZ := hid hsz
    have NW : Hid (∀ j u, [Value.int .i64 c][j]? = some u → ((w2.setCell ⟨g, c.toNat, none⟩ (.int .i8 0)).alloc (.cells #[.int .i64 c] 3)).cell? ((⟨w2.heap.size, 0, none⟩ : Addr).add j) = some u) := by
      have q := World.news_of_block (heap_alloc_new (w2.setCell ⟨g, c.toNat, none⟩ (.int .i8 0)) (.cells #[.int .i64 c] 3))
      rw [hsz] at q
      exact q
    clear hpx hsz
    go_wp2_with (at_builtin; refine wpList_append_lies _ rfl (.tmp 21) (.tmp 23) 52 rfl 0 3 ti _ 1 8 Tryz.underlying52 HT.out Z0.out Z1.out Z2.out rfl (by decide) (.slice ba s.back.length bc) s.back.length (row nat1 s.back) rfl (World.ownsRow.alloc HR.out.back _) ⟨w2.heap.size, 0, none⟩ 1 1 [.int .i64 c] rfl rfl NW.out (by simp [Value.oneCell']) (by decide) (by simp [maxLen]; omega) (by omega) (Nat.zero_le _) (w2.heap.size + 1) (by simp) ?_; intro g2 cap2 w3 ho hgr hat hlt; have hpw : w3.heap[pa]? = w2.heap[pa]? := ((hgr.block pa (by simp; omega) (fun e => own_ne_block HR.out.back HR.out.blk (by decide) e.symm)).trans (Below.heap_alloc _ _ _ (by simp; omega))).trans HPX.out; have e1 : w3.cell? ⟨pa, 4, none⟩ = some (.slice ba s.back.length bc) := (World.cell?_of_block hpw).trans h4; have e2 : w3.frozen? ⟨pa, 4, none⟩ = false := (World.frozen?_of_block hpw).trans hzp; have hpa1 : pa < w3.heap.size := Nat.lt_of_lt_of_le hpa (Nat.le_trans (by simp) hgr.size); have HO := hid ho; have HG := hid hgr; have HA := hid hat; have HL := hid hlt; clear ho hgr hat hlt hpw h3 h4 hcell hz hzp)
    go_ret
    have hb := HR.out.backed (a := c.toNat) f1 f2 F3.out F4.out F5.out (by intro k hk; rw [HSZ.out]; exact F6.out k hk) ((Kept.refl _ _).alloc _) (by simp only [nat1, CC.out]; exact HO.out) HG.out (HA.out.imp id (fun e => by rw [e]; simp)) HL.out
    have hOK := OK.out
    rw [E.out] at hOK ⊢
    have K3 : Kept F w w3 := K1.out.trans' (KW.out.trans' hb.2.1)
    have K4 := K3.setCell (p := ⟨pa, 4, none⟩) (Or.inl f1) (.slice (some ⟨g2, 0, none⟩) (s.back.length + 1) cap2)
    refine ⟨ret_bool HM.out.symm, ⟨_, _, _, hb.1, Or.inl f1, Or.inl f2, fun k hk => Or.inl (F3.out k hk), fun k hk => Or.inl (F4.out k hk), fun k hk => ?_, Grow.lt IS.out.lt K4.size, hOK⟩, K4⟩
    cases hk
    exact hb.2.2.imp id fun e => ⟨by have := e.1; rw [HSZ.out] at this; exact Nat.le_trans K1.out.size this, by simpa [World.setCell] using e.2⟩
end Go.Proofs.YtnkpopeahmjodaaGreat
