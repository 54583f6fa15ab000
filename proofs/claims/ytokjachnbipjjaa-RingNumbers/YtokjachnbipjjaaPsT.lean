/- The ring of texts: the walks of Push and Pop. -/
import Derived.Test.YtokjachnbipjjaaRiT
namespace Go.Proofs.Ytokjachnbipjjaa
open Go.ChangeShapes Go.WideShapes Go.ChangeAt Go.RowKit

set_option maxHeartbeats 2000000 in
theorem pushT (pa room : Nat) (l : List ByteArray) (F : Nat → Prop) (v : ByteArray) (w : World) (h : IsT w F pa room l) :
    Calls Try.prog 13 #[.pointer (some ⟨pa, 0, none⟩), (.string v)] w fun e w' => e = .returned (.bool (decide (l.length < room))) ∧ IsT w' (Grow F w w') pa room (if l.length < room then l ++ [v] else l) ∧ Kept F w w' := by
  have IS := hid h
  obtain ⟨uv, pl, first, hr, hL, f1, f2, f4⟩ := h
  obtain ⟨hpa, h0, h1, h2, h3⟩ := hr.cells
  have LY := hid hL
  have hfit := hL.fits
  have htop := hL.top
  by_cases c : l.length < room
  · rw [if_pos c, decide_eq_true c]
    have c' : ((l.length : Int) == (room : Int)) = false := by rw [beq_eq_false_iff_ne]; omega
    have hfr : w.frozen? ⟨pa, 1, none⟩ = false := blk_free hr.blk
    have hfr3 : w.frozen? ⟨pa, 3, none⟩ = false := blk_free hr.blk
    have HR := hid hr
    have A := hid (fun n => atT pa room first l.length (w.drewN n) h0 h2 hL.pos hL.top hL.first_lt (by omega))
    have C := hid c
    clear hL hr f4 c
    obtain ⟨ua, uc, rfl⟩ := own_form HR.out.used
    have hll : pl.length ≤ 4096 := by have := LY.out.len_le; omega
    obtain ⟨t, hT⟩ : ∃ t : Nat, (first + l.length) % room = t := ⟨_, rfl⟩
    rw [hT] at A
    have TT := hid hT
    by_cases d : t < pl.length
    · have hx : pl[t]? = some pl[t] := List.getElem?_eq_getElem d
      obtain ⟨g, cap, e, hg, _, hgp, hgf, hgc⟩ := HR.out.place hx
      cases e
      generalize pl[t] = x0 at hgc
      clear hx hT
      have d' : (t : Int) < (pl.length : Int) := by omega
      have D := hid d
      clear d hfr h2
      go_enter Try.func13, Try.ntmps13
      go_wp2_with fail
      go_quiet (fail)
      go_wp2_with fail
      refine (A.out nq).mono ?_
      rintro e w1 ⟨rfl, nd, rfl⟩
      go_wp2
      go_ret
      have R1 := (((HR.out.plain ((Kept.refl _ _).drewN (nq + nd))).store D.out v).setCnt (l.length + 1))
      have K1 : Kept F w _ := (((Kept.refl F w).drewN (nq + nd)).setCell (p := ⟨g, t, none⟩) (Or.inl (f2 g rfl)) (.string v)).setCell (p := ⟨pa, 3, none⟩) (Or.inl f1) (.int .i64 ((l.length + 1 : Nat) : Int))
      have L1 := LY.out.push_old v C.out (by rw [TT.out]; exact D.out)
      rw [TT.out] at L1
      refine ⟨rfl, ⟨_, _, _, by rw [List.length_append]; exact R1, L1, Or.inl f1, fun k hk => Or.inl (f2 k hk), Grow.lt IS.out.lt K1.size⟩, K1⟩
    · obtain ⟨ti, hti, hz0, hz1, hz2⟩ := info_parts infoT
      have HT := hid hti
      have Z0 := hid hz0
      have Z1 := hid hz1
      have Z2 := hid hz2
      have d' : decide ((t : Int) < (pl.length : Int)) = false := by simp; omega
      have D := hid d
      have F4 := hid IS.out.lt
      clear hti hz0 hz1 hz2 hT d h2
      go_enter Try.func13, Try.ntmps13
      go_wp2_with fail
      go_quiet (fail)
      go_wp2_with fail
      refine (A.out nq).mono ?_
      rintro e w1 ⟨rfl, nd, rfl⟩
      go_wp2_with (at_builtin; refine wpList_append_lies _ rfl (.tmp 39) (.tmp 41) 32 rfl 0 9 ti _ 1 16 Try.underlying32 HT.out Z0.out Z1.out Z2.out rfl (by decide) (.slice ua pl.length uc) pl.length (row oneT pl) rfl (World.ownsRow.alloc (own_same HR.out.used fun _ _ => rfl) _) ⟨w.heap.size, 0, none⟩ 1 1 (oneT v) rfl rfl (World.news_of_block (heap_alloc_new (w.drewN (nq + nd)) _)) (oneT_one _) (by decide) (by simp [maxLen]; omega) (by omega) (Nat.zero_le _) (w.heap.size + 1) (by simp) ?_; intro g cap w1 ho hgr hat hlt; have hpw : w1.heap[pa]? = w.heap[pa]? := (hgr.block pa (by simp; omega) (fun e => own_ne_block HR.out.used HR.out.blk (by decide) e.symm)).trans (Below.heap_alloc _ _ _ hpa); have e1 : w1.cell? ⟨pa, 1, none⟩ = some (.slice ua pl.length uc) := (World.cell?_of_block hpw).trans h1; have e2 : w1.frozen? ⟨pa, 1, none⟩ = false := (World.frozen?_of_block hpw).trans hfr; have e3 : w1.cell? ⟨pa, 3, none⟩ = some (.int .i64 l.length) := (World.cell?_of_block hpw).trans h3; have e4 : w1.frozen? ⟨pa, 3, none⟩ = false := (World.frozen?_of_block hpw).trans hfr3; have hpa1 := lt_of_block (hpw.trans HR.out.blk); have HO := hid ho; have HG := hid hgr; have HA := hid hat; have HL := hid hlt; clear ho hgr hat hlt hpw h1 h0 h3 hfr hfr3)
      go_ret
      obtain ⟨R0, K0, G0⟩ := HR.out.pushed f1 f2 F4.out (((Kept.refl _ _).drewN (nq + nd)).alloc _) HO.out HG.out (HA.out.imp id (fun e => by rw [e]; simp)) HL.out
      have R1 := R0.setCnt (l.length + 1)
      have K1 : Kept F w _ := (K0.setCell (p := ⟨pa, 1, none⟩) (Or.inl f1) (.slice (some ⟨g, 0, none⟩) (pl.length + 1) cap)).setCell (p := ⟨pa, 3, none⟩) (Or.inl f1) (.int .i64 ((l.length + 1 : Nat) : Int))
      have L1 := LY.out.push_new v C.out (by rw [TT.out]; exact D.out)
      refine ⟨rfl, ⟨_, _, _, by rw [List.length_append]; exact R1, L1, Or.inl f1, fun k hk => ?_, Grow.lt F4.out K1.size⟩, K1⟩
      cases hk
      exact G0.imp id fun e => ⟨e.1, by simpa [World.setCell] using e.2⟩
  · rw [if_neg c, decide_eq_false c]
    have c' : ((l.length : Int) == (room : Int)) = true := by rw [beq_iff_eq]; omega
    clear hL hr c hfit
    go_enter Try.func13, Try.ntmps13
    go_wp2_with fail
    go_quiet (fail)
    go_wp2
    go_ret
    exact ⟨rfl, IS.out.grow ((Kept.refl (fun _ => False) _).drewN _) (fun _ _ e => e), (Kept.refl _ _).drewN _⟩

set_option maxHeartbeats 1000000 in
theorem popNilT (pa room : Nat) (F : Nat → Prop) (w : World) (h : IsT w F pa room []) :
    Calls Try.prog 14 #[.pointer (some ⟨pa, 0, none⟩)] w fun e w' => e = .returned (.tuple #[(.string (⟨#[]⟩ : ByteArray)), .bool false]) ∧ w' = w := by
  obtain ⟨uv, pl, first, hr, hL, f1, f2, f4⟩ := h
  obtain ⟨hpa, h0, h1, h2, h3⟩ := hr.cells
  replace h3 : w.cell? ⟨pa, 3, none⟩ = some (.int .i64 0) := h3
  clear hr hL f1 f2 f4 h0 h1 h2
  go_enter Try.func14, Try.ntmps14
  go_wp2
  go_ret2
  exact ⟨rfl, rfl⟩

set_option maxHeartbeats 2000000 in
theorem popT (pa room : Nat) (x : ByteArray) (l : List ByteArray) (F : Nat → Prop) (w : World) (h : IsT w F pa room (x :: l)) :
    Calls Try.prog 14 #[.pointer (some ⟨pa, 0, none⟩)] w fun e w' => e = .returned (.tuple #[(.string x), .bool true]) ∧ IsT w' (Grow F w w') pa room l ∧ Kept F w w' := by
  have IS := hid h
  obtain ⟨uv, pl, first, hr, hL, f1, f2, f4⟩ := h
  obtain ⟨hpa, h0, h1, h2, h3⟩ := hr.cells
  have LY := hid hL
  have hfit := hL.fits
  have htop := hL.top
  simp only [List.length_cons] at hfit h3
  have hfr2 : w.frozen? ⟨pa, 2, none⟩ = false := blk_free hr.blk
  have hfr3 : w.frozen? ⟨pa, 3, none⟩ = false := blk_free hr.blk
  have c' : (((l.length + 1 : Nat) : Int) == 0) = false := by rw [beq_eq_false_iff_ne]; omega
  obtain ⟨g, cap, rfl, hg, hlt, hgp, hgf, hgc⟩ := hr.place hL.head
  have HR := hid hr
  have hlt' : (first : Int) < (pl.length : Int) := by omega
  have hll : pl.length ≤ 4096 := by have := LY.out.len_le; omega
  have LT := hid hlt
  have hpg : pa ≠ g := fun e => hgp e.symm
  obtain ⟨c, hc⟩ : ∃ c : Int, c = ((l.length + 1 : Nat) : Int) := ⟨_, rfl⟩
  have HC := hid hc
  have hcb : 1 ≤ c ∧ c ≤ 4096 := by omega
  obtain ⟨hc1, hc2⟩ := hcb
  rw [← hc] at h3 c'
  have A := hid (fun w' q0 q2 => atT pa room first 1 w' q0 q2 LY.out.pos LY.out.top LY.out.first_lt (by omega))
  obtain ⟨t, hT⟩ : ∃ t : Nat, (first + 1) % room = t := ⟨_, rfl⟩
  rw [hT] at A
  have TT := hid hT
  clear hL hr f4 hfit hc hlt hT
  go_enter Try.func14, Try.ntmps14
  go_wp2_with fail
  go_quiet (fail)
  go_wp2_with fail
  go_region
  all_goals
    go_wp2_with fail
    refine (A.out _ ?_ ?_).mono ?_
    · simp [go_sem, h0]
    · simp [go_sem, h2]
    rintro e w1 ⟨rfl, nd, rfl⟩
    go_wp2
    go_ret2
    obtain rfl : c = ((l.length : Int) + 1) := by have := HC.out; omega
    rw [show ((l.length : Int) + 1) - 1 = (l.length : Int) by omega]
    have R1 := (((((HR.out.plain ((Kept.refl _ _).drewN (nq + 1))).store LT.out (⟨#[]⟩ : ByteArray)).plain ((Kept.refl _ _).drewN nd)).setFirst t).setCnt l.length)
    have K1 : Kept F w _ := (((((Kept.refl F w).drewN (nq + 1)).setCell (p := ⟨g, first, none⟩) (Or.inl (f2 g rfl)) (.string (⟨#[]⟩ : ByteArray))).drewN nd).setCell (p := ⟨pa, 2, none⟩) (Or.inl f1) (.int .i64 (t : Int))).setCell (p := ⟨pa, 3, none⟩) (Or.inl f1) (.int .i64 (l.length : Int))
    have L1 := LY.out.pop (⟨#[]⟩ : ByteArray)
    rw [TT.out] at L1
    exact ⟨rfl, ⟨_, _, _, R1, L1, Or.inl f1, fun k hk => Or.inl (f2 k hk), Grow.lt IS.out.lt K1.size⟩, K1⟩
end Go.Proofs.Ytokjachnbipjjaa
