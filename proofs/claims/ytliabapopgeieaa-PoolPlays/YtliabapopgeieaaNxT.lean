/- The pool of texts: the walk of next. -/
import Derived.Test.YtliabapopgeieaaFiT
namespace Go.Proofs.Ytliabapopgeieaa
open Go.ChangeShapes Go.WideShapes Go.ChangeAt Go.RowKit

/-- a pool of texts whose memory lies in F -/
def IsT (w : World) (F : Nat → Prop) (pa : Nat) (s : St ByteArray) : Prop :=
  ∃ uv bv, RawT w pa uv bv s ∧ F pa ∧ (∀ k, uv.ownBlock = some k → F k) ∧ (∀ k, bv.ownBlock = some k → F k) ∧ ∀ k, F k → k < w.heap.size

theorem RawT.same {w w' : World} {pa : Nat} {uv bv : Value} {s : St ByteArray} (h : RawT w pa uv bv s) (h0 : w'.heap[pa]? = w.heap[pa]?) (h1 : ∀ k, uv.ownBlock = some k → w'.heap[k]? = w.heap[k]?) (h2 : ∀ k, bv.ownBlock = some k → w'.heap[k]? = w.heap[k]?) : RawT w' pa uv bv s :=
  ⟨h0.trans h.blk, own_same h.used h1, own_same h.back h2⟩
/-- a call that does not touch its memory leaves it as it is -/
theorem IsT.kept {w w' : World} {F G : Nat → Prop} {pa : Nat} {s : St ByteArray} (h : IsT w F pa s) (k : Kept G w w') (hd : ∀ k, F k → ¬ G k) : IsT w' F pa s := by
  obtain ⟨uv, bv, hr, h1, h2, h3, h4⟩ := h
  have hb : ∀ i, F i → w'.heap[i]? = w.heap[i]? := fun i hi => k.block i (h4 i hi) (hd i hi)
  exact ⟨uv, bv, hr.same (hb pa h1) (fun i hi => hb i (h2 i hi)) (fun i hi => hb i (h3 i hi)), h1, h2, h3, fun i hi => Nat.lt_of_lt_of_le (h4 i hi) k.size⟩
theorem IsT.below {w w' : World} {F : Nat → Prop} {pa : Nat} {s : St ByteArray} (h : IsT w F pa s) (k : Below w.heap.size w w') : IsT w' F pa s := h.kept (G := fun _ => False) (Kept.of_below k) fun _ _ e => e
theorem IsT.lt {w : World} {F : Nat → Prop} {pa : Nat} {s : St ByteArray} (h : IsT w F pa s) : ∀ k, F k → k < w.heap.size := by
  obtain ⟨_, _, _, _, _, _, h4⟩ := h; exact h4
theorem IsT.widen {w : World} {F G : Nat → Prop} {pa : Nat} {s : St ByteArray} (h : IsT w F pa s) (hg : ∀ k, F k → G k) (hl : ∀ k, G k → k < w.heap.size) : IsT w G pa s := by
  obtain ⟨uv, bv, hr, h1, h2, h3, h4⟩ := h
  exact ⟨uv, bv, hr, hg _ h1, fun k hk => hg _ (h2 k hk), fun k hk => hg _ (h3 k hk), hl⟩

theorem IsT.grow {w w' : World} {F G : Nat → Prop} {pa : Nat} {s : St ByteArray} (h : IsT w F pa s) (k : Kept G w w') (hd : ∀ k, F k → ¬ G k) : IsT w' (Grow F w w') pa s :=
  (h.kept k hd).widen (fun _ e => Or.inl e) (Grow.lt h.lt k.size)
theorem IsT.drewN {w : World} {F : Nat → Prop} {pa : Nat} {s : St ByteArray} (h : IsT w F pa s) (n : Nat) : IsT (w.drewN n) F pa s := h.kept ((Kept.refl (fun _ => False) _).drewN _) fun _ _ e => e

/-- one place more, laid by append and stored back -/
theorem RawT.pushed {w W w1 : World} {F : Nat → Prop} {pa : Nat} {uv bv : Value} {s : St ByteArray} {g cap : Nat} {x : ByteArray × Nat × Bool} (h : RawT w pa uv bv s) (f1 : F pa) (f2 : ∀ k, uv.ownBlock = some k → F k) (f3 : ∀ k, bv.ownBlock = some k → F k) (f4 : ∀ k, F k → k < w.heap.size)
    (hW : Kept (fun _ => False) w W) (ho : w1.ownsRow 0 81 3 (.slice (some ⟨g, 0, none⟩) (s.pl.length + 1) cap) (s.pl.length + 1) (row plT s.pl ++ plT x)) (hg : W.grownBy w1 uv.ownBlock) (hat : uv.ownBlock = some g ∨ g = W.heap.size) (hlt : g < w1.heap.size) :
    let w2 := w1.setCell ⟨pa, 1, none⟩ (.slice (some ⟨g, 0, none⟩) (s.pl.length + 1) cap)
    IsT w2 (Grow F w w2) pa ⟨s.most, s.pl ++ [x], s.back⟩ ∧ Kept F w w2 := by
  intro w2
  have hne : uv.ownBlock ≠ some pa := own_ne_block h.used h.blk (by decide)
  have hb1 : w1.heap[pa]? = w.heap[pa]? := (hg.block pa (Nat.lt_of_lt_of_le (f4 pa f1) hW.size) (fun e => hne e.symm)).trans (hW.block pa (f4 pa f1) fun e => e)
  have hb2 : ∀ k, bv.ownBlock = some k → w1.heap[k]? = w.heap[k]? := fun k hk => by
    refine (hg.block k (Nat.lt_of_lt_of_le (f4 k (f3 k hk)) hW.size) (fun e => ?_)).trans (hW.block k (f4 k (f3 k hk)) fun e => e)
    rcases own_ne h.back h.used (by decide) with q | q
    · rw [q] at hk; cases hk
    · exact q (hk.trans e)
  have hblk : w1.heap[pa]? = some (.cells #[.int .i64 s.most, uv, bv] 78 (0, 0)) := hb1.trans h.blk
  have hgp : (Value.slice (some ⟨g, 0, none⟩) (s.pl.length + 1) cap).ownBlock ≠ some pa := own_ne_block ho hblk (by decide)
  have hbp : bv.ownBlock ≠ some pa := own_ne_block h.back h.blk (by decide)
  have hk1 : Kept F w w1 := (hW.mono (fun _ e => e.elim)).grown hg (fun k hk => Or.inl (f2 k hk))
  refine ⟨⟨.slice (some ⟨g, 0, none⟩) (s.pl.length + 1) cap, bv, ⟨?_, ?_, ownsRow_setCell_other (own_same h.back hb2) hbp _⟩, Or.inl f1, fun k hk => ?_, fun k hk => Or.inl (f3 k hk), Grow.lt f4 (by show _ ≤ (w1.setCell _ _).heap.size; simpa [World.setCell] using hk1.size)⟩, hk1.setCell (Or.inl f1) _⟩
  · have := blk_set (j := 1) (u := .slice (some ⟨g, 0, none⟩) (s.pl.length + 1) cap) hblk
    simpa using this
  · have := ownsRow_setCell_other (a := ⟨pa, 1, none⟩) ho hgp (u := .slice (some ⟨g, 0, none⟩) (s.pl.length + 1) cap)
    simp only [row_append, List.length_append, List.length_cons, List.length_nil]
    simpa [row] using this
  · cases hk
    rcases hat with q | q
    · exact Or.inl (f2 g q)
    · exact Or.inr ⟨by show _ ≤ g; have := hW.size; omega, by show g < (w1.setCell _ _).heap.size; simpa [World.setCell] using hlt⟩

theorem info81 : (Try.prog.info? 81).map (fun i => (i.zero, i.size, i.bytes)) = some (some (.agg (plT ((⟨#[]⟩ : ByteArray), 0, false)).toArray), 3, 32) := by kernel_rfl
set_option maxHeartbeats 2000000 in
theorem nextT (pa : Nat) (s : St ByteArray) (F : Nat → Prop) (w : World) (h : IsT w F pa s) (hm : s.pl.length ≤ 1000000) (hb : s.back.length ≤ 1000000) (hbk : ∀ b ∈ s.back, b < s.pl.length) :
    Calls Try.prog 36 #[.pointer (some ⟨pa, 0, none⟩)] w fun e w' => e = .returned (.tuple #[.int .i64 (nextS (⟨#[]⟩ : ByteArray) s).2.1, .bool (nextS (⟨#[]⟩ : ByteArray) s).2.2]) ∧ IsT w' (Grow F w w') pa (nextS (⟨#[]⟩ : ByteArray) s).1 ∧ Kept F w w' := by
  obtain ⟨uv, bv, hr, f1, f2, f3, f4⟩ := h
  obtain ⟨hpa, h0, h1, h2⟩ := hr.cells
  have hfz : w.frozen? ⟨pa, 2, none⟩ = false := blk_free hr.blk
  have hfz1 : w.frozen? ⟨pa, 1, none⟩ = false := blk_free hr.blk
  obtain ⟨most, pl, back⟩ := s
  rcases snoc_or back with rfl | ⟨bk, a, rfl⟩
  · by_cases c : pl.length = most
    · have H := hid (nextS_full (z := ((⟨#[]⟩ : ByteArray) : ByteArray)) c)
      obtain ⟨ua, uc, rfl⟩ := own_form hr.used
      obtain ⟨ba, bc, rfl⟩ := own_form hr.back
      have HR := hid hr
      have c' : ((pl.length : Int) == (most : Int)) = true := by rw [beq_iff_eq]; omega
      simp only [] at h0 h1 h2 hm hb
      have c'' := hid c
      clear hr c hb hfz hfz1
      go_enter Try.func36, Try.ntmps36
      go_wp2_with fail
      go_quiet (fail)
      go_wp2
      go_ret2
      rw [H.out]
      have hI : IsT w F pa ⟨most, pl, []⟩ := ⟨_, _, HR.out, f1, f2, f3, f4⟩
      exact ⟨rfl, hI.grow ((Kept.refl (fun _ => False) _).drewN _) (fun _ _ e => e), (Kept.refl _ _).drewN _⟩
    · have H := hid (nextS_new (z := ((⟨#[]⟩ : ByteArray) : ByteArray)) c)
      obtain ⟨ba, bc, rfl⟩ := own_form hr.back
      obtain ⟨ua, uc, rfl⟩ := own_form hr.used
      have HR := hid hr
      have c' : ((pl.length : Int) == (most : Int)) = false := by rw [beq_eq_false_iff_ne]; omega
      simp only [] at h0 h1 h2 hm hb
      obtain ⟨ti, hti, hz0, hz1, hz2⟩ := info_parts info81
      have HT := hid hti
      have Z0 := hid hz0
      have Z1 := hid hz1
      have Z2 := hid hz2
      clear hr c hb hfz hti hz0 hz1 hz2
      go_enter Try.func36, Try.ntmps36
      go_wp2_with fail
      go_quiet (fail)
      go_wp2_with (at_builtin; refine wpList_append_lies _ rfl (.tmp 45) (.tmp 47) 76 rfl 0 81 ti _ 3 32 Try.underlying76 HT.out Z0.out Z1.out Z2.out rfl (by decide) (.slice ua pl.length uc) pl.length (row plT pl) rfl (World.ownsRow.alloc (own_same HR.out.used fun _ _ => rfl) _) ⟨w.heap.size, 0, none⟩ 1 1 (plT ((⟨#[]⟩ : ByteArray), 0, false)) rfl rfl (World.news_of_block (heap_alloc_new (w.drewN nq) _)) (plT_one _) (by decide) (by simp [maxLen]; omega) (by omega) (Nat.zero_le _) (w.heap.size + 1) (by simp) ?_; intro g cap w1 ho hgr hat hlt; have hpw : w1.heap[pa]? = w.heap[pa]? := (hgr.block pa (by simp; omega) (fun e => own_ne_block HR.out.used HR.out.blk (by decide) e.symm)).trans (Below.heap_alloc _ _ _ hpa); have e1 : w1.cell? ⟨pa, 1, none⟩ = some (.slice ua pl.length uc) := (World.cell?_of_block hpw).trans h1; have e2 : w1.frozen? ⟨pa, 1, none⟩ = false := (World.frozen?_of_block hpw).trans hfz1; have hpa1 := lt_of_block (hpw.trans HR.out.blk); have HO := hid ho; have HG := hid hgr; have HA := hid hat; have HL := hid hlt; clear ho hgr hat hlt hpw h1 h0 h2 hfz1)
      go_ret2
      rw [H.out]
      have := HR.out.pushed f1 f2 f3 f4 (((Kept.refl _ _).drewN nq).alloc _) HO.out HG.out (HA.out.imp id (fun e => by rw [e]; simp)) HL.out
      exact ⟨ret_ib (by show _ = (pl.length : Int); omega) rfl, this.1, this.2⟩
  · obtain ⟨g, cap, rfl, _, hg⟩ := hr.back.form (by simp)
    have hc := hr.back.cellAt bk.length (by simp)
    simp only [row_append] at hc
    rw [List.getElem?_append_right (by rw [row_length nat1_len]; omega), row_length nat1_len] at hc
    simp [row, nat1] at hc
    have H := hid (nextS_back (z := ((⟨#[]⟩ : ByteArray) : ByteArray)) (m := most) (pl := pl) (bk := bk) (a := a))
    have HR := hid hr
    have hcap : bk.length < cap := by
      obtain ⟨_, ⟨h', _⟩ | ⟨g', cap', cur, h', _, _, hn, _⟩⟩ := hr.back
      · cases h'
      · cases h'; simp at hn; omega
    have hgp : pa ≠ g := fun e => own_ne_block hr.back hr.blk (by decide) (by simp [Value.ownBlock, e])
    simp only [List.length_append, List.length_cons, List.length_nil] at h2 hb
    clear hr hfz1 hbk h0 h1
    go_enter Try.func36, Try.ntmps36
    go_wp2
    go_ret2
    rw [H.out]
    have hr := HR.out
    have hne : uv.ownBlock ≠ some pa := own_ne_block hr.used hr.blk (by decide)
    have hbk2 := hr.back
    simp only [row_append, List.length_append, List.length_cons, List.length_nil] at hbk2
    have hpop := ownsRow_pop (row_length nat1_len bk) hbk2
    refine ⟨rfl, ⟨uv, .slice (some ⟨g, 0, none⟩) bk.length cap, ⟨?_, ownsRow_setCell_other hr.used hne _, ownsRow_setCell_other hpop (by simp [Value.ownBlock]; omega) _⟩, Or.inl f1, fun k hk => Or.inl (f2 k hk), fun k hk => Or.inl (f3 k hk), Grow.lt f4 (by simp)⟩, (Kept.refl _ _).setCell (Or.inl f1) _⟩
    have := blk_set (j := 2) (u := .slice (some ⟨g, 0, none⟩) bk.length cap) hr.blk
    simpa using this
end Go.Proofs.Ytliabapopgeieaa
