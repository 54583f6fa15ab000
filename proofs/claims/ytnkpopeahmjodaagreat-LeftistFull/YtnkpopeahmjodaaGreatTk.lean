/- The arena: the walks of fresh, wipe, next, Take. -/
import Derived.Test.YtnkpopeahmjodaaGreatZr
import Derived.Deep.DeepCutAuto
namespace Go.Proofs.YtnkpopeahmjodaaGreat
open Go.ChangeShapes Go.WideShapes Go.ChangeAt Go.RowKit

set_option maxHeartbeats 1000000 in
theorem freshA (k : Nat) (hk : k < 10) (w : World) : Calls Tryz.prog 82 #[.int .i64 k] w fun e w' => e = .returned (.int .i64 (fr k)) ∧ ∃ n, w' = w.drewN n := by
  match k, hk with
  | 0, _ | 1, _ | 2, _ | 3, _ | 4, _ | 5, _ | 6, _ | 7, _ | 8, _ | 9, _ =>
    go_enter Tryz.func82, Tryz.ntmps82
    go_wp2
    go_ret
    exact ⟨rfl, 0, rfl⟩

/-- the first k numbers anew -/
def mix (k : Nat) (x : Nat → Int) : Nat → Int := fun j => if j < k then fr j else x j
theorem mix_zero (x : Nat → Int) : mix 0 x = x := by funext j; simp [mix]
theorem mix_step (k : Nat) (x : Nat → Int) : upd (mix k x) k (fr k) = mix (k + 1) x := by
  funext j
  unfold upd mix
  by_cases h : j = k
  · subst h; simp
  · by_cases h' : j < k
    · rw [if_neg h, if_pos h', if_pos (by omega)]
    · rw [if_neg h, if_neg h', if_neg (by omega)]
theorem ten_mix (x : Nat → Int) (b : Bool) : ten (mix 10 x, b) = ten (fr, b) := by simp [ten, mix]

set_option maxHeartbeats 2000000 in
theorem wipeA (pa pm : Nat) (hv tv bv : Value) (s : St) (F : Nat → Prop) (c : Nat) (x : ((Nat → Int) × Bool)) (hx : s.pl[c]? = some x) (hlen : s.pl.length ≤ 65537) (w : World) (h : RawA w pa pm hv tv bv s) (f3 : ∀ k, hv.ownBlock = some k → F k) :
    Calls Tryz.prog 71 #[.pointer (some ⟨pa, 0, none⟩), .int .i64 c] w fun e w' => e = .returned (.tuple #[]) ∧ RawA w' pa pm hv tv bv ⟨s.most, s.pl.set c (fr, x.2), s.back, s.steps⟩ ∧ Kept F w w' := by
  have HR := hid h
  have HX := hid hx
  clear h hx
  go_enter Tryz.func71, Tryz.ntmps71
  go_wp2
  go_loopw [5] (fun kv wr => ∃ k : Nat, kv = .int .i64 k ∧ k ≤ 10 ∧ RawA wr pa pm hv tv bv ⟨s.most, s.pl.set c (mix k x.1, x.2), s.back, s.steps⟩ ∧ Kept F w wr) (fun k _ => 10 - (intOf k).toNat)
  case atStart =>
    refine ⟨0, rfl, by decide, ?_, Kept.refl _ _⟩
    rw [mix_zero]
    have e : s.pl.set c (x.1, x.2) = s.pl := List.ext_getElem? fun i => by
      by_cases hi : c = i
      · subst hi; rw [List.getElem?_set_self (List.getElem?_eq_some_iff.1 HX.out).1, HX.out]
      · rw [List.getElem?_set_ne hi]
    rw [e]
    exact HR.out
  case round =>
    obtain ⟨k, rfl, hk, hR, hK⟩ := hrel
    have hcl : c < s.pl.length := (List.getElem?_eq_some_iff.1 HX.out).1
    have hx : (s.pl.set c (mix k x.1, x.2))[c]? = some (mix k x.1, x.2) := List.getElem?_set_self hcl
    have KK := hid hK
    have RR := hid hR
    have FX := hid hx
    by_cases hlt : k < 10
    · obtain ⟨g, cap, rfl, hg, hfz, hcell⟩ := hR.num (j := k) hx hlt
      obtain ⟨hpa, h0, h1, h2, h3, h4⟩ := hR.cells
      have hgp : g ≠ pa := fun e => own_ne_block hR.has hR.blk (by decide) (by rw [e]; rfl)
      have hpg : pa ≠ g := fun e => hgp e.symm
      have A := hid (fun w => atA c k (by omega) (by omega) (by omega) (by omega) w)
      have B := hid (fun w => freshA k hlt w)
      obtain ⟨o, ho⟩ : ∃ o : Nat, o = c * 10 + k := ⟨_, rfl⟩
      have OO := hid ho
      have ho' : (c : Int) * 10 + (k : Int) = (o : Int) := by omega
      rw [ho'] at A
      rw [← ho] at hcell
      have hl : (s.pl.set c (mix k x.1, x.2)).length * 10 = s.pl.length * 10 := by simp
      replace h2 : wr.cell? ⟨pa, 2, none⟩ = some (.slice (some ⟨g, 0, none⟩) (s.pl.length * 10) cap) := by
        rw [h2]
        simp
      have ho1 : (o : Int) < ((s.pl.length * 10 : Nat) : Int) := by omega
      obtain ⟨n, hn⟩ : ∃ n, n = s.pl.length * 10 := ⟨_, rfl⟩
      rw [← hn] at h2 ho1
      have hn' : n ≤ 655370 := by omega
      have hz := hfz o
      have F3 := hid f3
      have LT := hid hlt
      generalize hfr : fr k = fv at B
      have HF := hid hfr
      clear hR hK h0 h1 h3 h4 ho ho' hl hn hfz hx hlen hcl f3 hfr
      go_wp2_with fail
      go_region_held3 (fun w' => w'.cell? ⟨pa, 2, none⟩ = some (.slice (some ⟨g, 0, none⟩) n cap)) (first | exact h2 | (simp [go_sem]; exact h2) | (simp [go_sem, hpg]; exact h2))
        (first
          | (go_at_call 73; refine (A.out _).mono ?_; rintro e w3 ⟨rfl, d, rfl⟩)
          | (go_at_call 82; refine (B.out _).mono ?_; rintro e w4 ⟨rfl, d2, rfl⟩))
      go_wp2
      go_roundw
      case rel =>
        have R := (RR.out.plain ((Kept.refl _ _).drewN (1 + d + d2))).stored FX.out LT.out OO.out fv
        refine ⟨k + 1, by go_num, by omega, ?_, (KK.out.drewN (1 + d + d2)).setCell (p := ⟨g, o, none⟩) (Or.inl (F3.out g rfl)) _⟩
        rw [← HF.out] at R ⊢
        rw [List.set_set, mix_step] at R
        exact R
      case measure => simp [intOf]; omega
    · obtain rfl : k = 10 := by omega
      go_wp2
      go_end0
      have e : (s.pl.set c (mix 10 x.1, x.2)).set c (fr, x.2) = s.pl.set c (fr, x.2) := by rw [List.set_set]
      have e1 := row_like (f := ten) _ c _ (fr, x.2) FX.out (ten_mix x.1 x.2).symm
      have e2 := row_like (f := mk8) _ c _ (fr, x.2) FX.out rfl
      rw [e] at e1 e2
      have R := RR.out
      exact ⟨rfl, ⟨R.blk, R.met, by have q := R.has; simp only [List.length_set] at q ⊢; rw [e1]; exact q, by have q := R.tak; simp only [List.length_set] at q ⊢; rw [e2]; exact q, R.back⟩, KK.out⟩

/-- an arena whose rows may differ in length -/
structure RawG (w : World) (pa pm : Nat) (hv tv bv : Value) (most : Nat) (hs ts : List ((Nat → Int) × Bool)) (bk : List Nat) (steps : Nat) : Prop where
  blk : w.heap[pa]? = some (.cells #[.int .i64 most, .pointer (some ⟨pm, 0, none⟩), hv, tv, bv] 63 (0, 0))
  met : w.heap[pm]? = some (.cells #[.int .i64 steps, .int .i64 0, .int .i64 0] 76 (0, 0))
  has : w.ownsRow 0 2 1 hv (hs.length * 10) (row ten hs)
  tak : w.ownsRow 0 74 1 tv ts.length (row mk8 ts)
  back : w.ownsRow 0 3 1 bv bk.length (row nat1 bk)
theorem RawA.toG {w : World} {pa pm : Nat} {hv tv bv : Value} {s : St} (h : RawA w pa pm hv tv bv s) : RawG w pa pm hv tv bv s.most s.pl s.pl s.back s.steps := ⟨h.blk, h.met, h.has, h.tak, h.back⟩
theorem RawG.toA {w : World} {pa pm : Nat} {hv tv bv : Value} {most steps : Nat} {pl : List ((Nat → Int) × Bool)} {bk : List Nat} (h : RawG w pa pm hv tv bv most pl pl bk steps) : RawA w pa pm hv tv bv ⟨most, pl, bk, steps⟩ := ⟨h.blk, h.met, h.has, h.tak, h.back⟩

section
variable {w W w1 : World} {F : Nat → Prop} {pa pm : Nat} {hv tv bv : Value} {most steps : Nat} {hs ts : List ((Nat → Int) × Bool)} {bk : List Nat} {g cap : Nat} {x : ((Nat → Int) × Bool)}
theorem RawG.ne (h : RawG w pa pm hv tv bv most hs ts bk steps) : pa ≠ pm := fun e => by
  have h1 := h.blk
  rw [e, h.met] at h1
  injection h1 with h1
  injection h1 with _ h1 _
  exact absurd h1 (by decide)
theorem RawG.pushT (h : RawG w pa pm hv tv bv most hs ts bk steps) (f1 : F pa) (f2 : F pm) (f3 : ∀ k, hv.ownBlock = some k → F k) (f4 : ∀ k, tv.ownBlock = some k → F k) (f5 : ∀ k, bv.ownBlock = some k → F k) (f6 : ∀ k, F k → k < w.heap.size)
    (hW : Kept (fun _ => False) w W) (ho : w1.ownsRow 0 74 1 (.slice (some ⟨g, 0, none⟩) (ts.length + 1) cap) (ts.length + 1) (row mk8 ts ++ mk8 x)) (hg : W.grownBy w1 tv.ownBlock) (hat : tv.ownBlock = some g ∨ g = W.heap.size) (hlt : g < w1.heap.size) :
    RawG (w1.setCell ⟨pa, 3, none⟩ (.slice (some ⟨g, 0, none⟩) (ts.length + 1) cap)) pa pm hv (.slice (some ⟨g, 0, none⟩) (ts.length + 1) cap) bv most hs (ts ++ [x]) bk steps ∧ Kept F w w1 ∧ (F g ∨ (w.heap.size ≤ g ∧ g < w1.heap.size)) := by
  have hk1 : Kept F w w1 := (hW.mono (fun _ e => e.elim)).grown hg (fun k hk => Or.inl (f4 k hk))
  have hsame : ∀ k, F k → tv.ownBlock ≠ some k → w1.heap[k]? = w.heap[k]? := fun k hF hk => (hg.block k (Nat.lt_of_lt_of_le (f6 k hF) hW.size) (fun e => hk e.symm)).trans (hW.block k (f6 k hF) fun e => e)
  have b1 := (hsame pa f1 (own_ne_block h.tak h.blk (by decide))).trans h.blk
  have b2 := (hsame pm f2 (own_ne_block h.tak h.met (by decide))).trans h.met
  have o1 := own_same h.has fun k hk => hsame k (f3 k hk) (ne_of_own h.tak h.has (by decide) hk)
  have o2 := own_same h.back fun k hk => hsame k (f5 k hk) (ne_of_own h.tak h.back (by decide) hk)
  refine ⟨⟨?_, blk_other b2 (fun e => h.ne e.symm), ownsRow_setCell_other o1 (own_ne_block o1 b1 (by decide)) _, ?_, ownsRow_setCell_other o2 (own_ne_block o2 b1 (by decide)) _⟩, hk1, ?_⟩
  · have := blk_set (j := 3) (u := .slice (some ⟨g, 0, none⟩) (ts.length + 1) cap) b1
    simpa using this
  · have := ownsRow_setCell_other (a := ⟨pa, 3, none⟩) ho (own_ne_block ho b1 (by decide)) (.slice (some ⟨g, 0, none⟩) (ts.length + 1) cap)
    simp only [row_snoc, List.length_append, List.length_cons, List.length_nil]
    simpa using this
  · rcases hat with q | q
    · exact Or.inl (f4 g q)
    · exact Or.inr ⟨by have := hW.size; omega, hlt⟩
theorem RawG.pushH (h : RawG w pa pm hv tv bv most hs ts bk steps) (f1 : F pa) (f2 : F pm) (f3 : ∀ k, hv.ownBlock = some k → F k) (f4 : ∀ k, tv.ownBlock = some k → F k) (f5 : ∀ k, bv.ownBlock = some k → F k) (f6 : ∀ k, F k → k < w.heap.size)
    (hW : Kept (fun _ => False) w W) (ho : w1.ownsRow 0 2 1 (.slice (some ⟨g, 0, none⟩) (hs.length * 10 + 10) cap) (hs.length * 10 + 10) (row ten hs ++ ten x)) (hg : W.grownBy w1 hv.ownBlock) (hat : hv.ownBlock = some g ∨ g = W.heap.size) (hlt : g < w1.heap.size) :
    RawG (w1.setCell ⟨pa, 2, none⟩ (.slice (some ⟨g, 0, none⟩) (hs.length * 10 + 10) cap)) pa pm (.slice (some ⟨g, 0, none⟩) (hs.length * 10 + 10) cap) tv bv most (hs ++ [x]) ts bk steps ∧ Kept F w w1 ∧ (F g ∨ (w.heap.size ≤ g ∧ g < w1.heap.size)) := by
  have hk1 : Kept F w w1 := (hW.mono (fun _ e => e.elim)).grown hg (fun k hk => Or.inl (f3 k hk))
  have hsame : ∀ k, F k → hv.ownBlock ≠ some k → w1.heap[k]? = w.heap[k]? := fun k hF hk => (hg.block k (Nat.lt_of_lt_of_le (f6 k hF) hW.size) (fun e => hk e.symm)).trans (hW.block k (f6 k hF) fun e => e)
  have b1 := (hsame pa f1 (own_ne_block h.has h.blk (by decide))).trans h.blk
  have b2 := (hsame pm f2 (own_ne_block h.has h.met (by decide))).trans h.met
  have o1 := own_same h.tak fun k hk => hsame k (f4 k hk) (ne_of_own h.has h.tak (by decide) hk)
  have o2 := own_same h.back fun k hk => hsame k (f5 k hk) (ne_of_own h.has h.back (by decide) hk)
  refine ⟨⟨?_, blk_other b2 (fun e => h.ne e.symm), ?_, ownsRow_setCell_other o1 (own_ne_block o1 b1 (by decide)) _, ownsRow_setCell_other o2 (own_ne_block o2 b1 (by decide)) _⟩, hk1, ?_⟩
  · have := blk_set (j := 2) (u := .slice (some ⟨g, 0, none⟩) (hs.length * 10 + 10) cap) b1
    simpa using this
  · have := ownsRow_setCell_other (a := ⟨pa, 2, none⟩) ho (own_ne_block ho b1 (by decide)) (.slice (some ⟨g, 0, none⟩) (hs.length * 10 + 10) cap)
    simp only [row_snoc, List.length_append, List.length_cons, List.length_nil]
    rw [show (hs.length + (0 + 1)) * 10 = hs.length * 10 + 10 by omega]
    exact this
  · rcases hat with q | q
    · exact Or.inl (f3 g q)
    · exact Or.inr ⟨by have := hW.size; omega, hlt⟩
end

/-- as IsA, of any state -/
def PreA (w : World) (F : Nat → Prop) (pa pm : Nat) (s : St) : Prop :=
  ∃ hv tv bv, RawA w pa pm hv tv bv s ∧ F pa ∧ F pm ∧ (∀ k, hv.ownBlock = some k → F k) ∧ (∀ k, tv.ownBlock = some k → F k) ∧ (∀ k, bv.ownBlock = some k → F k) ∧ (∀ k, F k → k < w.heap.size)
theorem PreA.toA {w : World} {F : Nat → Prop} {pa pm : Nat} {s : St} (h : PreA w F pa pm s) (ok : Ok s) : IsA w F pa pm s := by
  obtain ⟨hv, tv, bv, hr, h1, h2, h3, h4, h5, h6⟩ := h
  exact ⟨hv, tv, bv, hr, h1, h2, h3, h4, h5, h6, ok⟩

set_option maxHeartbeats 2000000 in
theorem next_back (pa pm most steps : Nat) (pl : List ((Nat → Int) × Bool)) (bk : List Nat) (a : Nat) (F : Nat → Prop) (w : World) (h : IsA w F pa pm ⟨most, pl, bk ++ [a], steps⟩) :
    Calls Tryz.prog 70 #[.pointer (some ⟨pa, 0, none⟩)] w fun e w' => e = .returned (.tuple #[.int .i64 a, .bool true]) ∧ PreA w' F pa pm ⟨most, pl, bk, steps⟩ ∧ Kept F w w' := by
  obtain ⟨hv, tv, bv, hr, f1, f2, f3, f4, f5, f6, ok⟩ := h
  obtain ⟨hpa, h0, h1, h2, h3, h4⟩ := hr.cells
  have hfz : w.frozen? ⟨pa, 4, none⟩ = false := blk_free hr.blk
  obtain ⟨g, cap, rfl, _, hg⟩ := hr.back.form (by simp)
  have hc := hr.back.cellAt bk.length (by simp)
  simp only [row_append] at hc
  rw [List.getElem?_append_right (by rw [row_length nat1_len]; omega), row_length nat1_len] at hc
  simp [row, nat1] at hc
  have HR := hid hr
  have hcap : bk.length < cap := by
    obtain ⟨_, ⟨h', _⟩ | ⟨g', cap', cur, h', _, _, hn, _⟩⟩ := hr.back
    · cases h'
    · cases h'; simp at hn; omega
  have hgp : pa ≠ g := fun e => own_ne_block hr.back hr.blk (by decide) (by simp [Value.ownBlock, e])
  have hbl := ok.back_le
  have hlen : pl.length ≤ 65536 := Nat.le_trans ok.fits ok.top
  simp only [List.length_append, List.length_cons, List.length_nil] at h4 hbl
  have F3 := hid f3
  have F4 := hid f4
  have F5 := hid f5
  have F6 := hid f6
  clear hr h0 h1 h2 h3 f3 f4 f5 f6 ok
  go_enter Tryz.func70, Tryz.ntmps70
  go_wp2
  go_ret2
  have hr := HR.out
  have hbk2 := hr.back
  simp only [row_append, List.length_append, List.length_cons, List.length_nil] at hbk2
  have hpop := ownsRow_pop (row_length nat1_len bk) hbk2
  refine ⟨rfl, ⟨hv, tv, .slice (some ⟨g, 0, none⟩) bk.length cap, ⟨?_, blk_other hr.met (fun e => hr.ne e.symm), ownsRow_setCell_other hr.has (own_ne_block hr.has hr.blk (by decide)) _, ownsRow_setCell_other hr.tak (own_ne_block hr.tak hr.blk (by decide)) _, ownsRow_setCell_other hpop (by simp [Value.ownBlock]; omega) _⟩, f1, f2, F3.out, F4.out, fun k hk => F5.out k hk, fun k hk => by simpa [World.setCell] using F6.out k hk⟩, (Kept.refl _ _).setCell (Or.inl f1) _⟩
  have := blk_set (j := 4) (u := .slice (some ⟨g, 0, none⟩) bk.length cap) hr.blk
  simpa using this

set_option maxHeartbeats 2000000 in
theorem next_full (pa pm most steps : Nat) (pl : List ((Nat → Int) × Bool)) (hl : pl.length = most) (F : Nat → Prop) (w : World) (h : IsA w F pa pm ⟨most, pl, [], steps⟩) :
    Calls Tryz.prog 70 #[.pointer (some ⟨pa, 0, none⟩)] w fun e w' => e = .returned (.tuple #[.int .i64 (-1), .bool false]) ∧ ∃ n, w' = w.drewN n := by
  obtain ⟨hv, tv, bv, hr, f1, f2, f3, f4, f5, f6, ok⟩ := h
  obtain ⟨hpa, h0, h1, h2, h3, h4⟩ := hr.cells
  obtain ⟨ta, tc, rfl⟩ := own_form hr.tak
  obtain ⟨ba, bc, rfl⟩ := own_form hr.back
  have hlen : pl.length ≤ 65536 := Nat.le_trans ok.fits ok.top
  have c' : ((pl.length : Int) == (most : Int)) = true := by rw [beq_iff_eq]; omega
  clear hr h1 h2 f1 f2 f3 f4 f5 f6 ok hl
  simp only [] at h0 h3 h4 hlen
  go_enter Tryz.func70, Tryz.ntmps70
  go_wp2
  go_ret2
  exact ⟨rfl, 0, rfl⟩

theorem info56 : (Tryz.prog.info? 74).map (fun i => (i.zero, i.size, i.bytes)) = some (some (.int .i8 0), 1, 1) := by kernel_rfl

set_option maxHeartbeats 2000000 in
theorem next_new (pa pm most steps : Nat) (pl : List ((Nat → Int) × Bool)) (hl : pl.length ≠ most) (F : Nat → Prop) (w : World) (h : IsA w F pa pm ⟨most, pl, [], steps⟩) :
    Calls Tryz.prog 70 #[.pointer (some ⟨pa, 0, none⟩)] w fun e w' => e = .returned (.tuple #[.int .i64 (pl.length : Int), .bool true]) ∧ PreA w' (Grow F w w') pa pm ⟨most, pl ++ [cl0], [], steps⟩ ∧ Kept F w w' := by
  obtain ⟨hv, tv, bv, hr, f1, f2, f3, f4, f5, f6, ok⟩ := h
  obtain ⟨hpa, h0, h1, h2, h3, h4⟩ := hr.cells
  have hfz2 : w.frozen? ⟨pa, 2, none⟩ = false := blk_free hr.blk
  have hfz3 : w.frozen? ⟨pa, 3, none⟩ = false := blk_free hr.blk
  obtain ⟨ha, hc, rfl⟩ := own_form hr.has
  obtain ⟨ta, tc, rfl⟩ := own_form hr.tak
  obtain ⟨ba, bc, rfl⟩ := own_form hr.back
  have hlen : pl.length ≤ 65536 := Nat.le_trans ok.fits ok.top
  have c' : ((pl.length : Int) == (most : Int)) = false := by rw [beq_eq_false_iff_ne]; omega
  obtain ⟨ti, hti, hz0, hz1, hz2⟩ := info_parts info56
  have HT := hid hti
  have Z0 := hid hz0
  have Z1 := hid hz1
  have Z2 := hid hz2
  have HR := hid hr
  have F1 := hid f1
  have F2 := hid f2
  have F3 := hid f3
  have F4 := hid f4
  have F5 := hid f5
  have F6 := hid f6
  clear hr h1 f1 f2 f3 f4 f5 f6 ok hl hti hz0 hz1 hz2
  simp only [] at h0 h2 h3 h4 hlen
  go_enter Tryz.func70, Tryz.ntmps70
  go_upto_region 10 with (at_builtin; refine wpList_append_lies _ rfl (.tmp 47) (.tmp 48) 61 rfl 0 74 ti _ 1 1 Tryz.underlying61 HT.out Z0.out Z1.out Z2.out rfl (by decide) (.slice ta pl.length tc) pl.length (row mk8 pl) rfl (World.ownsRow.alloc HR.out.tak _) ⟨w.heap.size, 0, none⟩ 1 1 (mk8 cl0) rfl rfl (World.news_of_block (heap_alloc_new w _)) (mk8_one _) (by decide) (by simp [maxLen]; omega) (by omega) (Nat.zero_le _) (w.heap.size + 1) (by simp) ?_; intro g1 cap1 w1 ho hgr hat hlt; have hpw : w1.heap[pa]? = w.heap[pa]? := (hgr.block pa (by simp; omega) (fun e => own_ne_block HR.out.tak HR.out.blk (by decide) e.symm)).trans (Below.heap_alloc _ _ _ hpa); have e3 : w1.cell? ⟨pa, 3, none⟩ = some (.slice ta pl.length tc) := (World.cell?_of_block hpw).trans h3; have e4 : w1.frozen? ⟨pa, 3, none⟩ = false := (World.frozen?_of_block hpw).trans hfz3; have e2 : w1.cell? ⟨pa, 2, none⟩ = some (.slice ha (pl.length * 10) hc) := (World.cell?_of_block hpw).trans h2; have e5 : w1.frozen? ⟨pa, 2, none⟩ = false := (World.frozen?_of_block hpw).trans hfz2; have hpa1 := lt_of_block (hpw.trans HR.out.blk); have W1 := hid hgr.size; have T := hid (HR.out.toG.pushT (x := cl0) F1.out F2.out F3.out F4.out F5.out F6.out ((Kept.refl _ _).alloc _) ho hgr (hat.imp id (fun e => by rw [e]; simp)) hlt); clear ho hgr hat hlt hpw h0 h2 h3 h4 hfz2 hfz3 hpa)
  obtain ⟨TG, TK, TF⟩ := T.out
  obtain ⟨g2, cap2, w3, hrun, ho2, hgr2, hat2, hlt2⟩ := append_ten (w1.setCell ⟨pa, 3, none⟩ (.slice (some ⟨g1, 0, none⟩) (pl.length + 1) cap1)) 60 _ _ _ TG.has (by show pl.length * 10 ≤ _; omega)
  have hpw : w3.heap[pa]? = (w1.setCell ⟨pa, 3, none⟩ (.slice (some ⟨g1, 0, none⟩) (pl.length + 1) cap1)).heap[pa]? := hgr2.block pa (by simp; omega) (fun e => own_ne_block TG.has TG.blk (by decide) e.symm)
  have e6 : w3.cell? ⟨pa, 2, none⟩ = some (.slice ha (pl.length * 10) hc) := (World.cell?_of_block hpw).trans (by simp [go_sem, e2])
  have e7 : w3.frozen? ⟨pa, 2, none⟩ = false := (World.frozen?_of_block hpw).trans (by simp [go_sem, e5])
  have hpa3 : pa < w3.heap.size := Nat.lt_of_lt_of_le hpa1 (Nat.le_trans (by simp) hgr2.size)
  have RUN := hid hrun
  have HO2 := hid ho2
  have HG2 := hid hgr2
  have HA2 := hid hat2
  have HL2 := hid hlt2
  have TG' := hid TG
  have TK' := hid TK
  have TF' := hid TF
  clear TG TK TF T hrun ho2 hgr2 hat2 hlt2 hpw e3 e4 e5
  go_wp2_with (at_builtin; refine Lib.wpList_append_run _ rfl _ _ _ _ rfl _ _ rfl rfl _ _ RUN.out ?_; clear e2)
  go_ret2
  have K2 : Kept F w (w1.setCell ⟨pa, 3, none⟩ (.slice (some ⟨g1, 0, none⟩) (pl.length + 1) cap1)) := TK'.out.setCell (p := ⟨pa, 3, none⟩) (Or.inl F1.out) _
  have f3' : ∀ k, (Value.slice ha (pl.length * 10) hc).ownBlock = some k → Grow F w (w1.setCell ⟨pa, 3, none⟩ (.slice (some ⟨g1, 0, none⟩) (pl.length + 1) cap1)) k := fun k hk => Or.inl (F3.out k hk)
  have f4' : ∀ k, (Value.slice (some ⟨g1, 0, none⟩) (pl.length + 1) cap1).ownBlock = some k → Grow F w (w1.setCell ⟨pa, 3, none⟩ (.slice (some ⟨g1, 0, none⟩) (pl.length + 1) cap1)) k := fun k hk => by
    cases hk
    exact TF'.out.imp id fun e => ⟨e.1, by simpa [World.setCell] using e.2⟩
  have f5' : ∀ k, (Value.slice ba 0 bc).ownBlock = some k → Grow F w (w1.setCell ⟨pa, 3, none⟩ (.slice (some ⟨g1, 0, none⟩) (pl.length + 1) cap1)) k := fun k hk => Or.inl (F5.out k hk)
  have P := TG'.out.pushH (x := cl0) (F := Grow F w (w1.setCell ⟨pa, 3, none⟩ (.slice (some ⟨g1, 0, none⟩) (pl.length + 1) cap1))) (Or.inl F1.out) (Or.inl F2.out) f3' f4' f5' (Grow.lt F6.out K2.size) (Kept.refl _ _) HO2.out HG2.out HA2.out HL2.out
  have K3 : Kept F w w3 := K2.trans P.2.1
  have K4 := K3.setCell (p := ⟨pa, 2, none⟩) (Or.inl F1.out) (.slice (some ⟨g2, 0, none⟩) (pl.length * 10 + 10) cap2)
  have up : ∀ k, Grow F w (w1.setCell ⟨pa, 3, none⟩ (.slice (some ⟨g1, 0, none⟩) (pl.length + 1) cap1)) k → Grow F w (w3.setCell ⟨pa, 2, none⟩ (.slice (some ⟨g2, 0, none⟩) (pl.length * 10 + 10) cap2)) k := fun k hk => hk.imp id fun e => ⟨e.1, by have := e.2; have q := P.2.1.size; simp [World.setCell] at this q ⊢; omega⟩
  refine ⟨rfl, ⟨_, _, _, P.1.toA, Or.inl F1.out, Or.inl F2.out, fun k hk => ?_, fun k hk => up k (f4' k hk), fun k hk => up k (f5' k hk), Grow.lt F6.out K4.size⟩, K4⟩
  cases hk
  rcases P.2.2 with e | e
  · exact up _ e
  · exact Or.inr ⟨Nat.le_trans K2.size e.1, by simpa [World.setCell] using e.2⟩

theorem takeS_back {most steps a : Nat} {pl : List ((Nat → Int) × Bool)} {bk : List Nat} : takeS ⟨most, pl, bk ++ [a], steps⟩ = ⟨most, pl.set a (fr, true), bk, steps + 1⟩ := by simp [takeS]
theorem takeS_full {most steps : Nat} {pl : List ((Nat → Int) × Bool)} (h : pl.length = most) : takeS ⟨most, pl, [], steps⟩ = ⟨most, pl, [], steps + 1⟩ := by simp [takeS, h, tick]
theorem takeS_new {most steps : Nat} {pl : List ((Nat → Int) × Bool)} (h : pl.length ≠ most) : takeS ⟨most, pl, [], steps⟩ = ⟨most, pl ++ [(fr, true)], [], steps + 1⟩ := by simp [takeS, h]
theorem nextS_back {most steps a : Nat} {pl : List ((Nat → Int) × Bool)} {bk : List Nat} : nextS ⟨most, pl, bk ++ [a], steps⟩ = a := by simp [nextS]
theorem nextS_full {most steps : Nat} {pl : List ((Nat → Int) × Bool)} (h : pl.length = most) : nextS ⟨most, pl, [], steps⟩ = -1 := by simp [nextS, h]
theorem nextS_new {most steps : Nat} {pl : List ((Nat → Int) × Bool)} (h : pl.length ≠ most) : nextS ⟨most, pl, [], steps⟩ = pl.length := by simp [nextS, h]

/-- behind next: the mark, the numbers -/
theorem take_rest (pa pm : Nat) (s : St) (c : Nat) (x : ((Nat → Int) × Bool)) (hx : s.pl[c]? = some x) (hlen : s.pl.length ≤ 65537) (F : Nat → Prop) (w : World) (h : PreA w F pa pm s) :
    ∃ g n cap, pa < w.heap.size ∧ w.cell? ⟨pa, 3, none⟩ = some (.slice (some ⟨g, 0, none⟩) n cap) ∧ n = s.pl.length ∧ g < w.heap.size ∧ w.frozen? ⟨g, c, none⟩ = false ∧ (∃ m, w.cell? ⟨g, c, none⟩ = some (.int .i8 m)) ∧ pa ≠ g ∧
      Calls Tryz.prog 71 #[.pointer (some ⟨pa, 0, none⟩), .int .i64 c] (w.setCell ⟨g, c, none⟩ (.int .i8 1)) fun e w' => e = .returned (.tuple #[]) ∧ PreA w' F pa pm ⟨s.most, s.pl.set c (fr, true), s.back, s.steps⟩ ∧ Kept F w w' := by
  obtain ⟨hv, tv, bv, hr, f1, f2, f3, f4, f5, f6⟩ := h
  obtain ⟨hpa, h0, h1, h2, h3, h4⟩ := hr.cells
  obtain ⟨g, cap, rfl, hg, hfz, hcell⟩ := hr.mark hx
  have hgp : pa ≠ g := fun e => own_ne_block hr.tak hr.blk (by decide) (by rw [e]; rfl)
  refine ⟨g, _, cap, hpa, h3, rfl, hg, hfz c, ⟨_, hcell⟩, hgp, ?_⟩
  have hR := hr.marked hx true (m := 1) rfl
  have hcl : c < s.pl.length := (List.getElem?_eq_some_iff.1 hx).1
  have K1 : Kept F w (w.setCell ⟨g, c, none⟩ (.int .i8 1)) := (Kept.refl F w).setCell (p := ⟨g, c, none⟩) (Or.inl (f4 g rfl)) _
  refine (wipeA pa pm _ _ _ _ F c (x.1, true) (by simp [hcl]) (by simpa using hlen) _ hR f3).mono ?_
  rintro e w' ⟨rfl, h5, h6⟩
  simp only [List.set_set] at h5
  exact ⟨rfl, ⟨_, _, _, h5, f1, f2, f3, f4, f5, fun k hk => Nat.lt_of_lt_of_le (f6 k hk) (K1.trans' h6).size⟩, K1.trans' h6⟩

set_option maxHeartbeats 2000000 in
theorem takeA (pa pm : Nat) (s : St) (F : Nat → Prop) (w : World) (h : IsA w F pa pm s) (hs : s.steps ≤ 100000000) :
    Calls Tryz.prog 52 #[.pointer (some ⟨pa, 0, none⟩)] w fun e w' => e = .returned (.tuple #[.int .i64 (nextS s), .bool (decide (0 ≤ nextS s))]) ∧ IsA w' (Grow F w w') pa pm (takeS s) ∧ Kept F w w' := by
  have OK := hid h.ok.take
  have hlen : s.pl.length ≤ 65536 := Nat.le_trans h.ok.fits h.ok.top
  have FR := hid h.ok.free
  have FL := hid h.lt
  have S := hid (stepA pa pm s F w h hs)
  obtain ⟨most, pl, back, steps⟩ := s
  rw [show tick ⟨most, pl, back, steps⟩ = ⟨most, pl, back, steps + 1⟩ from rfl] at S
  simp only [] at hlen
  clear h hs
  rcases snoc_or back with rfl | ⟨bk, a, rfl⟩
  · by_cases c : pl.length = most
    · rw [nextS_full c, takeS_full c] at *
      go_enter Tryz.func52, Tryz.ntmps52
      go_wp2_with fail
      refine S.out.mono ?_
      rintro e w1 ⟨rfl, h1, k1⟩
      have H1 := hid h1
      have K1 := hid k1
      have N := hid (next_full pa pm most (steps + 1) pl c F w1 h1)
      clear h1 k1 S c
      go_wp2_with fail
      refine N.out.mono ?_
      rintro e w2 ⟨rfl, n, rfl⟩
      go_wp2
      go_ret2
      exact ⟨rfl, (H1.out.drewN n).widen (fun _ e => Or.inl e) (Grow.lt FL.out (K1.out.drewN n).size), K1.out.drewN n⟩
    · rw [nextS_new c, takeS_new c] at *
      go_enter Tryz.func52, Tryz.ntmps52
      go_wp2_with fail
      refine S.out.mono ?_
      rintro e w1 ⟨rfl, h1, k1⟩
      have H1 := hid h1
      have K1 := hid k1
      have N := hid (next_new pa pm most (steps + 1) pl c F w1 h1)
      clear h1 k1 S c
      go_wp2_with fail
      refine N.out.mono ?_
      rintro e w2 ⟨rfl, h2, k2⟩
      obtain ⟨g, n, cap, hpa, h3, hn, hg, hfz, ⟨m, hm⟩, hpg, W⟩ := take_rest pa pm _ pl.length cl0 (by simp) (by simp; omega) _ w2 h2
      have HW := hid W
      have K2 := hid k2
      have hn1 : (pl.length : Int) < (n : Int) := by simp at hn; omega
      clear h2 k2 W N hn
      go_wp2_with fail
      refine HW.out.mono ?_
      rintro e w3 ⟨rfl, h4, k4⟩
      have H4 := hid h4
      have K4 := hid k4
      clear h4 k4 HW
      go_wp2
      go_ret2
      have e1 : (pl ++ [cl0]).set pl.length (fr, true) = pl ++ [(fr, true)] := by simp
      have hP := H4.out
      simp only [e1] at hP
      have K23 : Kept F w1 w3 := K2.out.trans K4.out
      have up : ∀ k, Grow F w1 w2 k → Grow F w w3 k := fun k hk => hk.imp id fun e => ⟨Nat.le_trans K1.out.size e.1, Nat.lt_of_lt_of_le e.2 K4.out.size⟩
      have KK := K1.out.trans' K23
      exact ⟨ret_ib rfl (by simp), (hP.toA OK.out).widen up (Grow.lt FL.out KK.size), KK⟩
  · rw [nextS_back, takeS_back] at *
    obtain ⟨y, hy⟩ := FR.out a (by simp)
    go_enter Tryz.func52, Tryz.ntmps52
    go_wp2_with fail
    refine S.out.mono ?_
    rintro e w1 ⟨rfl, h1, k1⟩
    have K1 := hid k1
    have N := hid (next_back pa pm most (steps + 1) pl bk a F w1 h1)
    clear h1 k1 S
    go_wp2_with fail
    refine N.out.mono ?_
    rintro e w2 ⟨rfl, h2, k2⟩
    obtain ⟨g, n, cap, hpa, h3, hn, hg, hfz, ⟨m, hm⟩, hpg, W⟩ := take_rest pa pm _ a _ hy (by simp; omega) _ w2 h2
    have HW := hid W
    have K2 := hid k2
    have hal : a < pl.length := (List.getElem?_eq_some_iff.1 hy).1
    have hn1 : (a : Int) < (n : Int) := by simp at hn; omega
    have hn2 : n ≤ 65536 := by simp at hn; omega
    clear h2 k2 W N hn hy
    go_wp2_with fail
    refine HW.out.mono ?_
    rintro e w3 ⟨rfl, h4, k4⟩
    have H4 := hid h4
    have K4 := hid k4
    clear h4 k4 HW
    go_wp2
    go_ret2
    have KK := K1.out.trans' (K2.out.trans' K4.out)
    exact ⟨ret_ib rfl (by simp), (H4.out.toA OK.out).widen (fun _ e => Or.inl e) (Grow.lt FL.out KK.size), KK⟩
end Go.Proofs.YtnkpopeahmjodaaGreat
