/- The document's pool: the walks of its Get and Set; the walk of the pool's own Set. -/
import Derived.Test.YtliabapopgeieaaRf
namespace Go.Proofs.Ytliabapopgeieaa
open Go.ChangeShapes Go.WideShapes Go.ChangeAt Go.RowKit

theorem row_like {α : Type} {f : α → List Value} : ∀ (l : List α) (i : Nat) (x x' : α), l[i]? = some x → f x' = f x → row f (l.set i x') = row f l
  | [], i, x, x', h, _ => by simp at h
  | y :: r, 0, x, x', h, hf => by simp at h; subst h; simp [row, hf]
  | y :: r, i + 1, x, x', h, hf => by simp at h; simp [row, row_like r i x x' h hf]

set_option maxHeartbeats 2000000 in
theorem getR (pa : Nat) (s : St Int) (F : Nat → Prop) (a g : Int) (w : World) (h : IsR w F pa s) :
    Calls Try.prog 25 #[.pointer (some ⟨pa, 0, none⟩), .agg #[.int .i64 a, .int .i64 g]] w fun e w' => e = .returned (.tuple #[.int .i64 (getS 0 s.pl a g), .int .i64 (lookS s.pl a g)]) ∧ Below w.heap.size w w' := by
  obtain ⟨gv, iv, vv, bv, hr, -⟩ := h
  have HR := hid hr
  clear hr
  go_enter Try.func25, Try.ntmps25
  go_wp2_with fail
  refine (lookR pa s gv iv vv bv a g _ (HR.out.plain ((Kept.refl _ _).alloc _))).mono ?_
  rintro e w1 ⟨rfl, hbel⟩
  have HB := hid (((Below.refl w.heap.size w).alloc (Nat.le_refl _) _).trans (hbel.mono (by simp)))
  have HL := hid (getS_no (z := (0 : Int)) (l := s.pl) (a := a) (g := g))
  rcases lookS_three (l := s.pl) (a := a) (g := g) with hL | hL | hL
  · have KN := hid (HL.out (by rw [hL]; decide))
    have KL := hid hL
    rw [hL]
    clear hbel hL
    go_wp2
    go_ret2
    rw [KL.out, KN.out]
    exact ⟨rfl, HB.out⟩
  · have KN := hid (HL.out (by rw [hL]; decide))
    have KL := hid hL
    rw [hL]
    clear hbel hL
    go_wp2
    go_ret2
    rw [KL.out, KN.out]
    exact ⟨rfl, HB.out⟩
  · obtain ⟨h0, x, hx, -, -, -⟩ := lookS_zero hL
    have hr1 := (HR.out.plain ((Kept.refl _ _).alloc _)).plain (Kept.of_below hbel)
    obtain ⟨hpa, -, -, -, h3, -⟩ := hr1.cells
    obtain ⟨b, cap, rfl, hb, _, hc⟩ := own1_get val1_len hr1.vals hx
    replace hc : w1.cell? ⟨b, a.toNat, none⟩ = some (.int .i64 x.1) := hc
    have hlt : a < (s.pl.length : Int) := by have := (List.getElem?_eq_some_iff.1 hx).1; omega
    have KN := hid (getS_yes (z := (0 : Int)) hL hx)
    have KL := hid hL
    have q0 : w1.cell? ⟨w.heap.size, 0, none⟩ = some (.int .i64 a) := (hbel.cell (p := ⟨w.heap.size, 0, none⟩) (by simp)).trans (by simp)
    have hwl : w.heap.size < w1.heap.size := Nat.lt_of_lt_of_le (by simp) hbel.size
    rw [hL]
    clear hbel hL hx hr1
    go_wp2_with fail
    go_quiet (fail)
    go_wp2
    go_ret2
    rw [KL.out, KN.out]
    exact ⟨rfl, below_drewN HB.out _⟩

/-- a value turned -/
theorem RawR.stored {w : World} {pa : Nat} {gv iv bv : Value} {s : St Int} {g cap n : Nat} (h : RawR w pa gv iv (.slice (some ⟨g, 0, none⟩) n cap) bv s) {i : Nat} {x : Int × Nat × Bool} (v : Int) (hx : s.pl[i]? = some x) :
    RawR (w.setCell ⟨g, i, none⟩ (.int .i64 v)) pa gv iv (.slice (some ⟨g, 0, none⟩) n cap) bv ⟨s.most, s.pl.set i (v, x.2), s.back⟩ := by
  have hn : n = s.pl.length := by
    rcases h.vals.2 with ⟨e, _⟩ | ⟨g', cap', cur, e, _⟩
    · cases e
    · cases e; rfl
  subst hn
  have hne : (Value.slice (some ⟨g, 0, none⟩) s.pl.length cap).ownBlock ≠ some pa := own_ne_block h.vals h.blk (by decide)
  have hgp : pa ≠ g := fun e => hne (by rw [e]; rfl)
  have o1 : gv.ownBlock ≠ some g := by
    rcases own_ne h.gens h.vals (by decide) with q | q
    · rw [q]; simp
    · exact q
  have o2 : iv.ownBlock ≠ some g := by
    rcases own_ne h.ins h.vals (by decide) with q | q
    · rw [q]; simp
    · exact q
  have o3 : bv.ownBlock ≠ some g := by
    rcases own_ne h.back h.vals (by decide) with q | q
    · rw [q]; simp
    · exact q
  have hs := (h.vals.stored i (.int .i64 v)).1
  have hrow := row_set val1_len s.pl i 0 x (v, x.2) (.int .i64 v) hx (by decide) rfl
  simp only [Nat.mul_one, Nat.add_zero] at hrow
  rw [hrow] at hs
  have hg : row gen1 (s.pl.set i (v, x.2)) = row gen1 s.pl := row_like _ _ _ _ hx rfl
  have hi : row in1 (s.pl.set i (v, x.2)) = row in1 s.pl := row_like _ _ _ _ hx rfl
  exact ⟨blk_other h.blk hgp, by simpa [hg] using ownsRow_setCell_other (a := ⟨g, i, none⟩) h.gens o1 (.int .i64 v), by simpa [hi] using ownsRow_setCell_other (a := ⟨g, i, none⟩) h.ins o2 (.int .i64 v), by simpa using hs, ownsRow_setCell_other h.back o3 _, h.apart⟩

set_option maxHeartbeats 2000000 in
theorem setR (pa : Nat) (s : St Int) (F : Nat → Prop) (a g v : Int) (w : World) (h : IsR w F pa s) :
    Calls Try.prog 27 #[.pointer (some ⟨pa, 0, none⟩), .agg #[.int .i64 a, .int .i64 g], .int .i64 v] w fun e w' => e = .returned (.int .i64 (lookS s.pl a g)) ∧ IsR w' (Grow F w w') pa (setS s a g v) ∧ Kept F w w' := by
  have IS := hid h
  obtain ⟨gv, iv, vv, bv, hr, f1, f2, f3, f4, f5, f6⟩ := h
  have HR := hid hr
  have F1 := hid f1
  have F2 := hid f2
  have F3 := hid f3
  have F4 := hid f4
  have F5 := hid f5
  have F6 := hid f6
  clear hr f1 f2 f3 f4 f5 f6
  go_enter Try.func27, Try.ntmps27
  go_wp2_with fail
  refine (lookR pa s gv iv vv bv a g _ (HR.out.plain ((Kept.refl _ _).alloc _))).mono ?_
  rintro e w1 ⟨rfl, hbel⟩
  have HB := hid (((Below.refl w.heap.size w).alloc (Nat.le_refl _) _).trans (hbel.mono (by simp)))
  have HL := hid (setS_no (s := s) (a := a) (g := g) (v := v))
  rcases lookS_three (l := s.pl) (a := a) (g := g) with hL | hL | hL
  · have KN := hid (HL.out (by rw [hL]; decide))
    have KL := hid hL
    rw [hL]
    clear hbel hL
    go_wp2
    go_ret
    rw [KL.out, KN.out]
    exact ⟨rfl, IS.out.grow (G := fun _ => False) (Kept.of_below HB.out) (fun _ _ e => e), Kept.of_below HB.out⟩
  · have KN := hid (HL.out (by rw [hL]; decide))
    have KL := hid hL
    rw [hL]
    clear hbel hL
    go_wp2
    go_ret
    rw [KL.out, KN.out]
    exact ⟨rfl, IS.out.grow (G := fun _ => False) (Kept.of_below HB.out) (fun _ _ e => e), Kept.of_below HB.out⟩
  · obtain ⟨h0, x, hx, -, -, ht⟩ := lookS_zero hL
    have hr1 := (HR.out.plain ((Kept.refl _ _).alloc _)).plain (Kept.of_below hbel)
    obtain ⟨hpa, -, -, -, h3, -⟩ := hr1.cells
    obtain ⟨b, cap, rfl, hb, hfz, hc⟩ := own1_get val1_len hr1.vals hx
    replace hc : w1.cell? ⟨b, a.toNat, none⟩ = some (.int .i64 x.1) := hc
    have hlt : a < (s.pl.length : Int) := by have := (List.getElem?_eq_some_iff.1 hx).1; omega
    have KN := hid (setS_yes (v := v) hL hx)
    have KL := hid hL
    have HS := hid (hr1.stored v hx)
    have HT := hid ht
    have q0 : w1.cell? ⟨w.heap.size, 0, none⟩ = some (.int .i64 a) := (hbel.cell (p := ⟨w.heap.size, 0, none⟩) (by simp)).trans (by simp)
    have hwl : w.heap.size < w1.heap.size := Nat.lt_of_lt_of_le (by simp) hbel.size
    rw [hL]
    clear hbel hL hx hr1 ht
    go_wp2_with fail
    go_region
    go_wp2
    go_ret
    rw [KL.out, KN.out]
    have hk : Kept F w (w1.setCell ⟨b, a.toNat, none⟩ (.int .i64 v)) := (Kept.of_below HB.out).setCell (p := ⟨b, _, none⟩) (Or.inl (F4.out b rfl)) _
    have e : (v, x.2) = (v, x.2.1, true) := by rw [← HT.out]
    rw [← e]
    exact ⟨rfl, ⟨gv, iv, _, bv, HS.out.plain ((Kept.refl _ _).drew), Or.inl F1.out, fun k hk => Or.inl (F2.out k hk), fun k hk => Or.inl (F3.out k hk), fun k hk => Or.inl (F4.out k hk), fun k hk => Or.inl (F5.out k hk), Grow.lt F6.out (Nat.le_trans hk.size (by simp))⟩, hk.drew⟩

set_option maxHeartbeats 2000000 in
theorem setI (pa : Nat) (s : St Int) (F : Nat → Prop) (a g v : Int) (w : World) (h : IsI w F pa s) :
    Calls Try.prog 26 #[.pointer (some ⟨pa, 0, none⟩), .agg #[.int .i64 a, .int .i64 g], .int .i64 v] w fun e w' => e = .returned (.int .i64 (lookS s.pl a g)) ∧ IsI w' (Grow F w w') pa (setS s a g v) ∧ Kept F w w' := by
  have IS := hid h
  obtain ⟨uv, bv, hr, f1, f2, f3, f4⟩ := h
  have HR := hid hr
  have F1 := hid f1
  have F2 := hid f2
  have F3 := hid f3
  have F4 := hid f4
  clear hr f1 f2 f3 f4
  go_enter Try.func26, Try.ntmps26
  go_wp2_with fail
  refine (findI pa s uv bv a g _ (HR.out.plain ((Kept.refl _ _).alloc _))).mono ?_
  rintro e w1 ⟨hbel, p, rfl, hp⟩
  have HB := hid (((Below.refl w.heap.size w).alloc (Nat.le_refl _) _).trans (hbel.mono (by simp)))
  have HL := hid (setS_no (s := s) (a := a) (g := g) (v := v))
  rcases lookS_three (l := s.pl) (a := a) (g := g) with hL | hL | hL
  · have KN := hid (HL.out (by rw [hL]; decide))
    have KL := hid hL
    rw [hL]
    clear hbel hL hp
    go_wp2
    go_ret
    rw [KL.out, KN.out]
    exact ⟨rfl, IS.out.grow (G := fun _ => False) (Kept.of_below HB.out) (fun _ _ e => e), Kept.of_below HB.out⟩
  · have KN := hid (HL.out (by rw [hL]; decide))
    have KL := hid hL
    rw [hL]
    clear hbel hL hp
    go_wp2
    go_ret
    rw [KL.out, KN.out]
    exact ⟨rfl, IS.out.grow (G := fun _ => False) (Kept.of_below HB.out) (fun _ _ e => e), Kept.of_below HB.out⟩
  · obtain ⟨b, cap, rfl, rfl⟩ := hp hL
    obtain ⟨h0, x, hx, -, -, ht⟩ := lookS_zero hL
    have hr1 := (HR.out.plain ((Kept.refl _ _).alloc _)).plain (Kept.of_below hbel)
    obtain ⟨b', cap', e, hb, hat, hf, hc⟩ := hr1.place hx
    cases e
    have k0 : w1.cell? ⟨b, a.toNat * 3, none⟩ = some (.int .i64 x.1) := hc 0 (by omega)
    have KN := hid (setS_yes (v := v) hL hx)
    have KL := hid hL
    have HS := hid (hr1.store (i := a.toNat) (j := 0) (o := a.toNat * 3) (u := .int .i64 v) (x' := (v, x.2)) hx (by decide) (by rfl) (by omega))
    have HT := hid ht
    rw [hL]
    clear hbel hL hx hr1 ht hc hp
    go_wp2
    go_ret
    rw [KL.out, KN.out]
    have hk : Kept F w (w1.setCell ⟨b, a.toNat * 3, none⟩ (.int .i64 v)) := (Kept.of_below HB.out).setCell (p := ⟨b, _, none⟩) (Or.inl (F2.out b rfl)) _
    have e : (v, x.2) = (v, x.2.1, true) := by rw [← HT.out]
    rw [← e]
    exact ⟨rfl, ⟨_, bv, HS.out, Or.inl F1.out, fun k hk => Or.inl (F2.out k hk), fun k hk => Or.inl (F3.out k hk), Grow.lt F4.out hk.size⟩, hk⟩
end Go.Proofs.Ytliabapopgeieaa
