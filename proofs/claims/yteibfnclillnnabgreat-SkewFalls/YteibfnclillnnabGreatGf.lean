/- Several texts in one. -/
import Derived.Test.YteibfnclillnnabGreatGc
import Derived.Deep.Onto
/- Skew trees as plain data: a node's children are the forest to its left, what comes behind it among its fellows is to its right; how they lie in an arena; two of them linked. -/
namespace Go.Proofs.YteibfnclillnnabGreat
open Go.ChangeShapes Go.WideShapes Go.ChangeAt Go.RowKit
open Tr

/-- is there none? -/
def leaf : Tr → Bool
  | lf => true
  | nd _ _ _ _ => false
/-- the Rank of a node whose children these are: a single one (with none below it, others behind it) counts for nothing -/
def rkf : Tr → Nat
  | lf => 0
  | nd _ _ k r => if leaf r then 1 else rkf r + (if leaf k then 0 else 1)
theorem rkf_nd (n i : Nat) (k r : Tr) : rkf (nd n i k r) = if leaf r then 1 else rkf r + (if leaf k then 0 else 1) := rfl
theorem leaf_lf {t : Tr} (h : leaf t = true) : t = lf := by cases t with
  | lf => rfl
  | nd n i k r => cases h
theorem rkf_pos : ∀ {t : Tr}, leaf t = false → 1 ≤ rkf t
  | lf, h => by cases h
  | nd n i k r, _ => by
    rw [rkf_nd]
    cases q : leaf r with
    | true => simp
    | false => have := rkf_pos q; simp; omega
theorem rkf_link {n i : Nat} {k r : Tr} (h : rkf k = rkf r) : rkf (nd n i k r) = rkf r + 1 := by
  rw [rkf_nd]
  cases q : leaf r with
  | true => rw [leaf_lf q]; rfl
  | false =>
    have h1 := rkf_pos q
    have h2 : leaf k = false := by
      cases z : leaf k with
      | true => rw [leaf_lf z] at h; simp [rkf] at h; omega
      | false => rfl
    simp [h2]
theorem rkf_single {n i : Nat} {k r : Tr} (h1 : leaf k = true) (h2 : leaf r = false) : rkf (nd n i k r) = rkf r := by
  rw [rkf_nd]; simp [h1, h2]
/-- may there be single children? -/
def Sgl : Prop := True
/-- the first one is a linked one -/
def fstk : Tr → Prop
  | lf => False
  | nd _ _ k r => rkf k = rkf r
/-- what children must be: of the Rank of what is behind them, or single ones -/
def Kd : Tr → Prop
  | lf => True
  | nd _ _ k r => (rkf k = rkf r ∨ (Sgl ∧ leaf k = true ∧ leaf r = false ∧ fstk r)) ∧ Kd k ∧ Kd r
theorem kd_rkf : ∀ k : Tr, Kd k → ¬ Sgl → k.rank = rkf k
  | lf, _, _ => rfl
  | nd n i k r, h, hs => by
    have e := h.1.resolve_right fun z => hs z.1
    rw [rkf_link e, ← kd_rkf r h.2.2 hs]; rfl
theorem kd_exact : ∀ k : Tr, Kd k → ¬ Sgl → k.size + 1 = 2 ^ rkf k
  | lf, _, _ => rfl
  | nd n i k r, h, hs => by
    have e := h.1.resolve_right fun z => hs z.1
    have h1 := kd_exact k h.2.1 hs
    have h2 := kd_exact r h.2.2 hs
    rw [rkf_link e]
    simp only [size]
    rw [Nat.pow_succ]
    rw [e] at h1
    omega
theorem kd_size : ∀ k : Tr, Kd k → 2 ^ rkf k ≤ k.size + 1
  | lf, _ => Nat.le_refl _
  | nd n i k r, h => by
    have h1 := kd_size k h.2.1
    have h2 := kd_size r h.2.2
    simp only [size]
    rcases h.1 with e | ⟨_, e1, e2, _⟩
    · rw [rkf_link e, Nat.pow_succ]
      rw [e] at h1
      omega
    · rw [rkf_single e1 e2]
      omega
/-- no item of a forest is before the one above it -/
def Hu (lt : Nat → Nat → Bool) : Nat → Tr → Prop
  | _, lf => True
  | u, nd _ i k r => lt i u = false ∧ Hu lt i k ∧ Hu lt u r
theorem Hu.all {lt : Nat → Nat → Bool} (ht : Tot lt) : ∀ {u : Nat} {k : Tr}, Hu lt u k → ∀ j ∈ k.items, lt j u = false
  | u, lf, _, j, hj => by simp [items] at hj
  | u, nd n i k r, h, j, hj => by
    simp only [items, List.mem_cons, List.mem_append] at hj
    rcases hj with rfl | hj | hj
    · exact h.1
    · have h1 := Hu.all ht h.2.1 j hj
      exact ht.le _ _ _ h.1 h1
    · exact Hu.all ht h.2.2 j hj

/-- how a forest of children lies under a node -/
def Vw (L : Nat → Bool) (f : Nat → Nat → Int) : Int → Tr → Prop
  | _, lf => True
  | up, nd n i k r => (L n = true ∧ L i = true ∧ f n 0 = up ∧ f n 1 = k.root ∧ f n 2 = -1 ∧ f n 3 = r.root ∧ f n 4 = (rkf k : Int) ∧ f n 6 = (i : Int) ∧ f i 9 = (n : Int)) ∧ Vw L f (n : Int) k ∧ Vw L f up r
theorem Vw.live {L : Nat → Bool} {f : Nat → Nat → Int} : ∀ {up : Int} {t : Tr}, Vw L f up t → ∀ c ∈ t.cells, L c = true
  | _, lf, _, c, hc => by simp [cells] at hc
  | up, nd n i k r, h, c, hc => by
    simp only [cells, List.mem_cons, List.mem_append] at hc
    rcases hc with rfl | rfl | hc | hc
    · exact h.1.1
    · exact h.1.2.1
    · exact Vw.live h.2.1 c hc
    · exact Vw.live h.2.2 c hc
theorem Vw.like {L L' : Nat → Bool} {f f' : Nat → Nat → Int} : ∀ {up : Int} {t : Tr}, Vw L f up t → (∀ c ∈ t.cells, L' c = L c ∧ ∀ j, f' c j = f c j) → Vw L' f' up t
  | _, lf, _, _ => trivial
  | up, nd n i k r, ⟨⟨h1, h2, h3, h4, h5, h6, h7, h8, h9⟩, hk, hr⟩, hf => by
    have hn := hf n (by simp [cells])
    have hi := hf i (by simp [cells])
    exact ⟨⟨by rw [hn.1]; exact h1, by rw [hi.1]; exact h2, by rw [hn.2]; exact h3, by rw [hn.2]; exact h4, by rw [hn.2]; exact h5, by rw [hn.2]; exact h6, by rw [hn.2]; exact h7, by rw [hn.2]; exact h8, by rw [hi.2]; exact h9⟩,
      Vw.like hk fun c hc => hf c (by simp [cells, hc]), Vw.like hr fun c hc => hf c (by simp [cells, hc])⟩

/-- a tree of its own: its node, its item, its children -/
structure Bn where
  n : Nat
  i : Nat
  k : Tr
namespace Bn
def rk (b : Bn) : Nat := rkf b.k
def cells (b : Bn) : List Nat := b.n :: b.i :: b.k.cells
def items (b : Bn) : List Nat := b.i :: b.k.items
def size (b : Bn) : Nat := b.k.size + 1
end Bn
/-- how it lies; what its Right has is left open -/
structure Vb (L : Nat → Bool) (f : Nat → Nat → Int) (b : Bn) : Prop where
  ln : L b.n = true
  li : L b.i = true
  up : f b.n 0 = -1
  down : f b.n 1 = b.k.root
  left : f b.n 2 = -1
  rank : f b.n 4 = (rkf b.k : Int)
  item : f b.n 6 = (b.i : Int)
  node : f b.i 9 = (b.n : Int)
  kids : Vw L f (b.n : Int) b.k
theorem Vb.like {L L' : Nat → Bool} {f f' : Nat → Nat → Int} {b : Bn} (h : Vb L f b) (hf : ∀ c ∈ b.cells, L' c = L c ∧ ∀ j, (c = b.n → j ≠ 3) → f' c j = f c j) (hn : b.n ∉ b.k.cells) : Vb L' f' b := by
  have h1 := hf b.n (by simp [Bn.cells])
  have h2 := hf b.i (by simp [Bn.cells])
  refine ⟨by rw [h1.1]; exact h.ln, by rw [h2.1]; exact h.li, ?_, ?_, ?_, ?_, ?_, ?_, ?_⟩
  · rw [h1.2 0 (by omega)]; exact h.up
  · rw [h1.2 1 (by omega)]; exact h.down
  · rw [h1.2 2 (by omega)]; exact h.left
  · rw [h1.2 4 (by omega)]; exact h.rank
  · rw [h1.2 6 (by omega)]; exact h.item
  · rw [h2.2 9 (by omega)]; exact h.node
  · exact Vw.like h.kids fun c hc => by
      have h3 := hf c (by simp [Bn.cells, hc])
      exact ⟨h3.1, fun j => h3.2 j fun e => absurd hc (e ▸ hn)⟩
theorem Vb.live {L : Nat → Bool} {f : Nat → Nat → Int} {b : Bn} (h : Vb L f b) : ∀ c ∈ b.cells, L c = true := by
  intro c hc
  simp only [Bn.cells, List.mem_cons] at hc
  rcases hc with rfl | rfl | hc
  · exact h.ln
  · exact h.li
  · exact Vw.live h.kids c hc

/-- the winner a with the loser b as its first child -/
def lkB (a b : Bn) : Bn := ⟨a.n, a.i, nd b.n b.i b.k a.k⟩
/-- the numbers behind a link -/
def lkN (f : Nat → Nat → Int) (a b : Nat) : Nat → Nat → Int := put (put (put (put f b 0 (a : Int)) b 3 (f a 1)) a 1 (b : Int)) a 4 (f a 4 + 1)
theorem lk_vb {L : Nat → Bool} {f : Nat → Nat → Int} {a b : Bn} (ha : Vb L f a) (hb : Vb L f b) (hr : rkf b.k = rkf a.k) (hd : (a.cells ++ b.cells).Nodup) : Vb L (lkN f a.n b.n) (lkB a b) := by
  rw [List.nodup_append] at hd
  obtain ⟨da, db, dab⟩ := hd
  have hab : a.n ≠ b.n := fun e => dab a.n (by simp [Bn.cells]) b.n (by simp [Bn.cells]) e
  have haib : a.i ≠ b.n := fun e => dab a.i (by simp [Bn.cells]) b.n (by simp [Bn.cells]) e
  have hani : a.n ≠ b.i := fun e => dab a.n (by simp [Bn.cells]) b.i (by simp [Bn.cells]) e
  simp only [Bn.cells, List.nodup_cons, List.mem_cons, not_or] at da db
  obtain ⟨⟨a1, a2⟩, a3, a4⟩ := da
  obtain ⟨⟨b1, b2⟩, b3, b4⟩ := db
  have oth : ∀ c j, c ≠ a.n → c ≠ b.n → lkN f a.n b.n c j = f c j := fun c j h1 h2 => by
    unfold lkN; rw [put_ne h1, put_ne h1, put_ne h2, put_ne h2]
  have atA : ∀ j, j ≠ 1 → j ≠ 4 → lkN f a.n b.n a.n j = f a.n j := fun j h1 h4 => by
    unfold lkN; rw [put_nj h4, put_nj h1, put_ne hab, put_ne hab]
  have atB : ∀ j, j ≠ 0 → j ≠ 3 → lkN f a.n b.n b.n j = f b.n j := fun j h0 h3 => by
    unfold lkN; rw [put_ne hab.symm, put_ne hab.symm, put_nj h3, put_nj h0]
  have ka : ∀ c ∈ a.k.cells, c ≠ a.n ∧ c ≠ b.n := fun c hc => ⟨fun e => a2 (e ▸ hc), fun e => dab c (by simp [Bn.cells, hc]) b.n (by simp [Bn.cells]) e⟩
  have kb : ∀ c ∈ b.k.cells, c ≠ a.n ∧ c ≠ b.n := fun c hc => ⟨fun e => dab a.n (by simp [Bn.cells]) c (by simp [Bn.cells, hc]) e.symm, fun e => b2 (e ▸ hc)⟩
  refine ⟨ha.ln, ha.li, ?_, ?_, ?_, ?_, ?_, ?_, ?_⟩
  · show lkN f a.n b.n a.n 0 = -1
    rw [atA 0 (by omega) (by omega)]; exact ha.up
  · show lkN f a.n b.n a.n 1 = (b.n : Int)
    unfold lkN; rw [put_nj (by omega), put_at]
  · show lkN f a.n b.n a.n 2 = -1
    rw [atA 2 (by omega) (by omega)]; exact ha.left
  · show lkN f a.n b.n a.n 4 = ((rkf (nd b.n b.i b.k a.k) : Nat) : Int)
    unfold lkN; rw [put_at, ha.rank, rkf_link hr]; omega
  · show lkN f a.n b.n a.n 6 = (a.i : Int)
    rw [atA 6 (by omega) (by omega)]; exact ha.item
  · show lkN f a.n b.n a.i 9 = (a.n : Int)
    rw [oth a.i 9 (fun e => a1 e.symm) haib]; exact ha.node
  · refine ⟨⟨hb.ln, hb.li, ?_, ?_, ?_, ?_, ?_, ?_, ?_⟩, ?_, ?_⟩
    · unfold lkN; rw [put_ne hab.symm, put_ne hab.symm, put_nj (by omega), put_at]; rfl
    · rw [atB 1 (by omega) (by omega)]; exact hb.down
    · rw [atB 2 (by omega) (by omega)]; exact hb.left
    · show lkN f a.n b.n b.n 3 = a.k.root
      unfold lkN; rw [put_ne hab.symm, put_ne hab.symm, put_at]; exact ha.down
    · rw [atB 4 (by omega) (by omega)]; exact hb.rank
    · rw [atB 6 (by omega) (by omega)]; exact hb.item
    · show lkN f a.n b.n b.i 9 = (b.n : Int)
      rw [oth b.i 9 (fun e => hani e.symm) (fun e => b1 e.symm)]; exact hb.node
    · exact Vw.like hb.kids fun c hc => ⟨rfl, fun j => oth c j (kb c hc).1 (kb c hc).2⟩
    · exact Vw.like ha.kids fun c hc => ⟨rfl, fun j => oth c j (ka c hc).1 (ka c hc).2⟩
theorem lk_cells (a b : Bn) : (lkB a b).cells.Perm (a.cells ++ b.cells) := by
  simp only [lkB, Bn.cells, Tr.cells, List.cons_append]
  refine (List.perm_cons _).2 ((List.perm_cons _).2 ?_)
  have h1 : (b.n :: b.i :: (b.k.cells ++ a.k.cells)).Perm (a.k.cells ++ (b.n :: b.i :: b.k.cells)) := by
    have := List.perm_append_comm (l₁ := b.n :: b.i :: b.k.cells) (l₂ := a.k.cells)
    simpa using this
  exact h1
theorem lk_items (a b : Bn) : (lkB a b).items.Perm (a.items ++ b.items) := by
  simp only [lkB, Bn.items, Tr.items, List.cons_append]
  refine (List.perm_cons _).2 ?_
  have := List.perm_append_comm (l₁ := b.i :: b.k.items) (l₂ := a.k.items)
  simpa using this
/-- what a tree of its own must be: its children's Ranks, its order -/
def Gb (lt : Nat → Nat → Bool) (b : Bn) : Prop := Kd b.k ∧ Hu lt b.i b.k
theorem lk_gb {lt : Nat → Nat → Bool} {a b : Bn} (ha : Gb lt a) (hb : Gb lt b) (hr : a.rk = b.rk) (ho : lt b.i a.i = false) : Gb lt (lkB a b) :=
  ⟨⟨Or.inl hr.symm, hb.1, ha.1⟩, ho, hb.2, ha.2⟩
end Go.Proofs.YteibfnclillnnabGreat

/- The walk of link. -/
namespace Go.Proofs.YteibfnclillnnabGreat
open Go.ChangeShapes Go.WideShapes Go.ChangeAt Go.RowKit

/-- link: w goes above l -/
def lin1 (s : St) (w l : Int) : St := setS s l 0 w
def lin2 (s : St) (w l : Int) : St := setS (tk (lin1 s w l) 1) l 3 (getS (lin1 s w l) w 1)
def lin3 (s : St) (w l : Int) : St := setS (lin2 s w l) w 1 l
def linS (s : St) (w l : Int) : St := setS (tk (lin3 s w l) 1) w 4 (getS (lin3 s w l) w 4 + 1)
theorem lin_steps (s : St) (w l : Int) : (linS s w l).steps = s.steps + 6 := by
  unfold linS; rw [set_steps]; show (lin3 s w l).steps + 1 + 1 = _
  unfold lin3; rw [set_steps]; unfold lin2; rw [set_steps]; show (lin1 s w l).steps + 1 + 1 + 1 + 1 + 1 = _
  unfold lin1; rw [set_steps]
theorem lin3_steps (s : St) (w l : Int) : (lin3 s w l).steps = s.steps + 4 := by
  unfold lin3; rw [set_steps]; unfold lin2; rw [set_steps]; show (lin1 s w l).steps + 1 + 1 + 1 = _
  unfold lin1; rw [set_steps]
theorem lin_most (s : St) (w l : Int) : (linS s w l).most = s.most := by
  unfold linS; rw [set_most]; show (lin3 s w l).most = _
  unfold lin3; rw [set_most]; unfold lin2; rw [set_most]; show (lin1 s w l).most = _
  unfold lin1; rw [set_most]

section
variable {F : Nat → Prop} {w0 w w' : World} {pa pm : Nat} {s s' : St}
set_option maxHeartbeats 1000000 in
theorem hangT (n c : Int) (h : Ex F w0 w pa pm s) (hs : s.steps ≤ 99999800) :
    Calls Tryz.prog 82 #[.pointer (some ⟨pa, 0, none⟩), .int .i64 n, .int .i64 c] w fun e w' => e = .returned (.tuple #[]) ∧ Ex F w0 w' pa pm (lin3 s n c) := by
  have H := hid (setT c 0 n h (by omega))
  have LS : Hid (lin3 s n c = setS (setS (tk (setS s c 0 n) 1) c 3 (getS (setS s c 0 n) n 1)) n 1 c) := hid rfl
  clear h
  go_enter Tryz.func82, Tryz.ntmps82
  go_wp2_with fail
  refine H.out.mono ?_
  rintro e w2 ⟨rfl, h2⟩
  have H2 := hid h2
  clear h2 H
  obtain ⟨s1, hs1⟩ : ∃ s1, s1 = setS s c 0 n := ⟨_, rfl⟩
  have T1 : Hid (s1.steps = s.steps + 1) := hid (by rw [hs1, set_steps])
  rw [← hs1] at H2 LS
  clear hs1
  go_wp2_with fail
  refine (getT n 1 H2.out (by rw [T1.out]; omega)).mono ?_
  rintro e w3 ⟨rfl, h3⟩
  have H3 := hid h3
  clear h3 H2
  obtain ⟨v1, hv1⟩ : ∃ v1, v1 = getS s1 n 1 := ⟨_, rfl⟩
  rw [← hv1] at LS ⊢
  clear hv1
  go_wp2_with fail
  refine (setT c 3 v1 H3.out (by show s1.steps + 1 ≤ _; rw [T1.out]; omega)).mono ?_
  rintro e w4 ⟨rfl, h4⟩
  have H4 := hid h4
  clear h4 H3
  obtain ⟨s2, hs2⟩ : ∃ s2, s2 = setS (tk s1 1) c 3 v1 := ⟨_, rfl⟩
  have T2 : Hid (s2.steps = s.steps + 3) := hid (by rw [hs2, set_steps]; show s1.steps + 1 + 1 = _; rw [T1.out])
  rw [← hs2] at H4 LS
  clear hs2
  go_wp2_with fail
  refine (setT n 1 c H4.out (by rw [T2.out]; omega)).mono ?_
  rintro e w5 ⟨rfl, h5⟩
  have H5 := hid h5
  clear h5 H4
  go_wp2
  go_end0
  exact ⟨rfl, by rw [LS.out]; exact H5.out⟩
set_option maxHeartbeats 2000000 in
theorem blinkT (n m : Int) (hr : (-1 ≤ getS (lin3 (tk s 6) n m) n 4 ∧ getS (lin3 (tk s 6) n m) n 4 ≤ 1000000) ∧ (-1 ≤ getS (lin3 (tk s 6) m n) m 4 ∧ getS (lin3 (tk s 6) m n) m 4 ≤ 1000000)) (h : Ex F w0 w pa pm s) (hs : s.steps ≤ 99999700) :
    Calls Tryz.prog 65 #[.pointer (some ⟨pa, 0, none⟩), .int .i64 n, .int .i64 m] w fun e w' =>
      e = .returned (.int .i64 (if nbS s m n = true then m else n)) ∧ Ex F w0 w' pa pm (if nbS s m n = true then linS (tk s 6) m n else linS (tk s 6) n m) := by
  have B := hid (nbeforeT m n h (by omega))
  clear h
  cases q : nbS s m n
  · rw [q] at B
    simp only [Bool.false_eq_true, if_false]
    have RK := hid hr.1
    have LS : Hid (linS (tk s 6) n m = setS (tk (lin3 (tk s 6) n m) 1) n 4 (getS (lin3 (tk s 6) n m) n 4 + 1)) := hid rfl
    have T3 : Hid ((lin3 (tk s 6) n m).steps = s.steps + 10) := hid (by rw [lin3_steps]; rfl)
    clear q hr
    go_enter Tryz.func65, Tryz.ntmps65
    go_wp2_with fail
    refine B.out.mono ?_
    rintro e w1 ⟨rfl, hb⟩
    have HB := hid hb
    clear hb B
    go_wp2_with fail
    refine (hangT n m HB.out (by show s.steps + 6 ≤ _; omega)).mono ?_
    rintro e w2 ⟨rfl, h2⟩
    have H2 := hid h2
    clear h2 HB
    obtain ⟨s3, hs3⟩ : ∃ s3, s3 = lin3 (tk s 6) n m := ⟨_, rfl⟩
    rw [← hs3] at H2 LS RK T3
    clear hs3
    go_wp2_with fail
    refine (getT n 4 H2.out (by rw [T3.out]; omega)).mono ?_
    rintro e w3 ⟨rfl, h3⟩
    have H3 := hid h3
    clear h3 H2
    obtain ⟨v4, hv4⟩ : ∃ v4, v4 = getS s3 n 4 := ⟨_, rfl⟩
    rw [← hv4] at LS RK ⊢
    clear hv4
    have rk0 := RK.out.1
    have rk1 := RK.out.2
    have hwv : IntKind.i64.wrap (v4 + 1) = v4 + 1 := IntWalk.i64_in _ (by omega)
    go_wp2_with fail
    refine (setT n 4 (v4 + 1) H3.out (by show s3.steps + 1 ≤ _; rw [T3.out]; omega)).mono ?_
    rintro e w7 ⟨rfl, h7⟩
    have H7 := hid h7
    clear h7 H3
    go_wp2
    go_ret
    exact ⟨rfl, by rw [LS.out]; exact H7.out⟩
  · rw [q] at B
    simp only [if_true]
    have RK := hid hr.2
    have LS : Hid (linS (tk s 6) m n = setS (tk (lin3 (tk s 6) m n) 1) m 4 (getS (lin3 (tk s 6) m n) m 4 + 1)) := hid rfl
    have T3 : Hid ((lin3 (tk s 6) m n).steps = s.steps + 10) := hid (by rw [lin3_steps]; rfl)
    clear q hr
    go_enter Tryz.func65, Tryz.ntmps65
    go_wp2_with fail
    refine B.out.mono ?_
    rintro e w1 ⟨rfl, hb⟩
    have HB := hid hb
    clear hb B
    go_wp2_with fail
    refine (hangT m n HB.out (by show s.steps + 6 ≤ _; omega)).mono ?_
    rintro e w2 ⟨rfl, h2⟩
    have H2 := hid h2
    clear h2 HB
    obtain ⟨s3, hs3⟩ : ∃ s3, s3 = lin3 (tk s 6) m n := ⟨_, rfl⟩
    rw [← hs3] at H2 LS RK T3
    clear hs3
    go_wp2_with fail
    refine (getT m 4 H2.out (by rw [T3.out]; omega)).mono ?_
    rintro e w3 ⟨rfl, h3⟩
    have H3 := hid h3
    clear h3 H2
    obtain ⟨v4, hv4⟩ : ∃ v4, v4 = getS s3 m 4 := ⟨_, rfl⟩
    rw [← hv4] at LS RK ⊢
    clear hv4
    have rk0 := RK.out.1
    have rk1 := RK.out.2
    have hwv : IntKind.i64.wrap (v4 + 1) = v4 + 1 := IntWalk.i64_in _ (by omega)
    go_wp2_with fail
    refine (setT m 4 (v4 + 1) H3.out (by show s3.steps + 1 ≤ _; rw [T3.out]; omega)).mono ?_
    rintro e w7 ⟨rfl, h7⟩
    have H7 := hid h7
    clear h7 H3
    go_wp2
    go_ret
    exact ⟨rfl, by rw [LS.out]; exact H7.out⟩
end
end Go.Proofs.YteibfnclillnnabGreat

/- Skew trees added up as digits: what holds from link to link. -/
namespace Go.Proofs.YteibfnclillnnabGreat
open Go.ChangeShapes Go.WideShapes Go.ChangeAt Go.RowKit
open Tr

/-- what all trees among digits have together -/
def col (g : Bn → List Nat) : List (Option Bn) → List Nat
  | [] => []
  | none :: r => col g r
  | some b :: r => g b ++ col g r
theorem col_take (g : Bn → List Nat) : ∀ (D : List (Option Bn)) (k : Nat) (b : Bn), D[k]? = some (some b) → (col g D).Perm (g b ++ col g (D.set k none))
  | [], k, b, h => by simp at h
  | o :: r, 0, b, h => by
    simp at h; subst h
    simp only [List.set_cons_zero, col]; exact List.Perm.refl _
  | o :: r, k + 1, b, h => by
    have ih := col_take g r k b (by simpa using h)
    simp only [List.set_cons_succ]
    cases o with
    | none => simpa only [col] using ih
    | some c =>
      simp only [col]
      refine (List.Perm.append_left (g c) ih).trans ?_
      rw [← List.append_assoc, ← List.append_assoc]
      exact List.Perm.append_right _ List.perm_append_comm
theorem col_put (g : Bn → List Nat) : ∀ (D : List (Option Bn)) (k : Nat) (t : Bn), D[k]? = some none → (col g (D.set k (some t))).Perm (g t ++ col g D)
  | [], k, b, h => by simp at h
  | o :: r, 0, b, h => by
    simp at h; subst h
    simp only [List.set_cons_zero, col]; exact List.Perm.refl _
  | o :: r, k + 1, t, h => by
    have ih := col_put g r k t (by simpa using h)
    simp only [List.set_cons_succ]
    cases o with
    | none => simpa only [col] using ih
    | some c =>
      simp only [col]
      refine (List.Perm.append_left (g c) ih).trans ?_
      rw [← List.append_assoc, ← List.append_assoc]
      exact List.Perm.append_right _ List.perm_append_comm
theorem flat_nodup {g : Bn → List Nat} : ∀ {l : List Bn}, (l.flatMap g).Nodup → ∀ y ∈ l, (g y).Nodup
  | [], _, y, hy => by cases hy
  | x :: r, h, y, hy => by
    simp only [List.flatMap_cons] at h
    have h2 := List.nodup_append.1 h
    rcases List.mem_cons.1 hy with rfl | hy
    · exact h2.1
    · exact flat_nodup h2.2.1 y hy
/-- the digits as numbers -/
def dig : Option Bn → Int
  | none => -1
  | some b => (b.n : Int)
def one1 (b : Bn) : List Nat := [b.n]
/-- how many trees -/
def ntr (D : List (Option Bn)) : Nat := (col one1 D).length
theorem ntr_take {D : List (Option Bn)} {k : Nat} {b : Bn} (h : D[k]? = some (some b)) : ntr D = ntr (D.set k none) + 1 := by
  have := (col_take one1 D k b h).length_eq
  unfold ntr; rw [this]; simp [one1, Nat.add_comm]
theorem ntr_put {D : List (Option Bn)} {k : Nat} {t : Bn} (h : D[k]? = some none) : ntr (D.set k (some t)) = ntr D + 1 := by
  have := (col_put one1 D k t h).length_eq
  unfold ntr; rw [this]; simp [one1, Nat.add_comm]

theorem bn_size {lt : Nat → Nat → Bool} {b : Bn} (h : Gb lt b) : 2 ^ b.rk ≤ b.items.length := by
  have := kd_size b.k h.1
  simp only [Bn.items, Bn.rk, List.length_cons]
  rw [size_items]
  omega

/-- trees as digits D, and trees that are still to be added; s0: the arena as it was -/
structure Dg (lt : Nat → Nat → Bool) (s0 s : St) (D : List (Option Bn)) (l : List Bn) : Prop where
  sm : Sm s0 s
  len : D.length = 16
  dv : ∀ k b, D[k]? = some (some b) → b.rk = k ∧ Vb (LS s) (hasS s) b ∧ Gb lt b
  lv : ∀ b ∈ l, Vb (LS s) (hasS s) b ∧ Gb lt b
  nd : (col Bn.cells D ++ l.flatMap Bn.cells).Nodup
  key : ∀ c, hasS s c 7 = hasS s0 c 7 ∧ hasS s c 8 = hasS s0 c 8
  oth : ∀ c, c ∉ col Bn.cells D ++ l.flatMap Bn.cells → ∀ j, hasS s c j = hasS s0 c j
  small : (col Bn.items D ++ l.flatMap Bn.items).length ≤ 60000

theorem Dg.rk {lt : Nat → Nat → Bool} {s0 s : St} {D : List (Option Bn)} {t : Bn} {l : List Bn} (h : Dg lt s0 s D (t :: l)) : t.rk < 16 := by
  have h1 := bn_size (h.lv t (by simp)).2
  have h2 := h.small
  simp only [List.flatMap_cons, List.length_append] at h2
  by_cases c : t.rk < 16
  · exact c
  · have h3 : 2 ^ 16 ≤ 2 ^ t.rk := Nat.pow_le_pow_right (by omega) (by omega)
    have : (2 : Nat) ^ 16 = 65536 := by decide
    omega

theorem lin3_view {s : St} {a b : Nat} (ha : LS s a = true) (hb : LS s b = true) : LS (lin3 (tk s 6) (a : Int) (b : Int)) = LS s ∧ hasS (lin3 (tk s 6) (a : Int) (b : Int)) = put (put (put (hasS s) b 0 (a : Int)) b 3 (hasS s a 1)) a 1 (b : Int) := by
  have e1 : LS (lin1 (tk s 6) a b) = LS s := set_ls (s := tk s 6)
  have v1 : hasS (lin1 (tk s 6) a b) = put (hasS s) b 0 (a : Int) := set_has (s := tk s 6) (j := 0) hb (by omega)
  have g1 : getS (lin1 (tk s 6) a b) (a : Int) 1 = hasS s a 1 := by
    have := get_nat (s := lin1 (tk s 6) a b) (c := a) (j := 1) (by rw [e1]; exact ha) (by omega)
    rw [v1, put_nj (by omega)] at this
    exact this
  have e2 : LS (lin2 (tk s 6) a b) = LS s := (set_ls (s := tk (lin1 (tk s 6) a b) 1)).trans e1
  have v2 : hasS (lin2 (tk s 6) a b) = put (put (hasS s) b 0 (a : Int)) b 3 (hasS s a 1) := by
    unfold lin2
    rw [g1]
    have := set_has (s := tk (lin1 (tk s 6) a b) 1) (c := b) (j := 3) (v := hasS s a 1) (by show LS (lin1 (tk s 6) a b) b = true; rw [e1]; exact hb) (by omega)
    rw [show hasS (tk (lin1 (tk s 6) (a : Int) (b : Int)) 1) = put (hasS s) b 0 (a : Int) from v1] at this
    exact this
  have e3 : LS (lin3 (tk s 6) a b) = LS s := (set_ls (s := lin2 (tk s 6) a b)).trans e2
  refine ⟨e3, ?_⟩
  unfold lin3
  have := set_has (s := lin2 (tk s 6) a b) (c := a) (j := 1) (v := (b : Int)) (by rw [e2]; exact ha) (by omega)
  rw [v2] at this
  exact this
theorem lin_get4 {s : St} {a b : Nat} (ha : LS s a = true) (hb : LS s b = true) : getS (lin3 (tk s 6) (a : Int) (b : Int)) (a : Int) 4 = hasS s a 4 := by
  obtain ⟨e3, v3⟩ := lin3_view ha hb
  have := get_nat (s := lin3 (tk s 6) a b) (c := a) (j := 4) (by rw [e3]; exact ha) (by omega)
  rw [v3, put_nj (by omega), put_nj (by omega), put_nj (by omega)] at this
  exact this
theorem lin_view {s : St} {a b : Nat} (ha : LS s a = true) (hb : LS s b = true) : LS (linS (tk s 6) (a : Int) (b : Int)) = LS s ∧ hasS (linS (tk s 6) (a : Int) (b : Int)) = lkN (hasS s) a b := by
  obtain ⟨e3, v3⟩ := lin3_view ha hb
  refine ⟨(set_ls (s := tk (lin3 (tk s 6) a b) 1)).trans e3, ?_⟩
  unfold linS
  rw [lin_get4 ha hb]
  have := set_has (s := tk (lin3 (tk s 6) a b) 1) (c := a) (j := 4) (v := hasS s a 4 + 1) (by show LS (lin3 (tk s 6) a b) a = true; rw [e3]; exact ha) (by omega)
  rw [show hasS (tk (lin3 (tk s 6) (a : Int) (b : Int)) 1) = _ from v3] at this
  exact this
theorem sm_lin {s : St} (ok : Ok s) (a b : Int) : Sm s (linS (tk s 6) a b) := by
  have h1 := (Sm.tk ok 6).trans (Sm.set (Sm.tk ok 6).ok b 0 a)
  have h2 := h1.trans (Sm.tk h1.ok 1)
  have h3 := h2.trans (Sm.set h2.ok b 3 (getS (lin1 (tk s 6) a b) a 1))
  have h4 := h3.trans (Sm.set h3.ok a 1 b)
  have h5 := h4.trans (Sm.tk h4.ok 1)
  exact h5.trans (Sm.set h5.ok a 4 (getS (lin3 (tk s 6) a b) a 4 + 1))

theorem lkN_key {f : Nat → Nat → Int} {a b : Nat} (c j : Nat) (hj : 5 ≤ j) : lkN f a b c j = f c j := by
  unfold lkN; rw [put_nj (by omega), put_nj (by omega), put_nj (by omega), put_nj (by omega)]
theorem lkN_oth {f : Nat → Nat → Int} {a b : Nat} {c : Nat} (h1 : c ≠ a) (h2 : c ≠ b) (j : Nat) : lkN f a b c j = f c j := by
  unfold lkN; rw [put_ne h1, put_ne h1, put_ne h2, put_ne h2]

/-- a is linked with b, below it: what the others are stays -/
theorem Dg.link {lt : Nat → Nat → Bool} {s0 s : St} {D : List (Option Bn)} {a b t x : Bn} {k : Nat} {l : List Bn} (h : Dg lt s0 s D (t :: l)) (hx : D[k]? = some (some x)) (hk : t.rk = k)
    (hab : (a = t ∧ b = x) ∨ (a = x ∧ b = t)) (ho : lt b.i a.i = false) : Dg lt s0 (linS (tk s 6) (a.n : Int) (b.n : Int)) (D.set k none) (lkB a b :: l) ∧ (lkB a b).rk = k + 1 := by
  obtain ⟨q1, q2, q3⟩ := h.dv k x hx
  obtain ⟨t1, t2⟩ := h.lv t (by simp)
  have hva : Vb (LS s) (hasS s) a ∧ Gb lt a ∧ a.rk = k := by rcases hab with ⟨rfl, rfl⟩ | ⟨rfl, rfl⟩; exact ⟨t1, t2, hk⟩; exact ⟨q2, q3, q1⟩
  have hvb : Vb (LS s) (hasS s) b ∧ Gb lt b ∧ b.rk = k := by rcases hab with ⟨rfl, rfl⟩ | ⟨rfl, rfl⟩; exact ⟨q2, q3, q1⟩; exact ⟨t1, t2, hk⟩
  have pc : ∀ g : Bn → List Nat, (g x ++ g t).Perm (g a ++ g b) := fun g => by rcases hab with ⟨rfl, rfl⟩ | ⟨rfl, rfl⟩; exact List.perm_append_comm; exact List.Perm.refl _
  have pAll : ∀ g : Bn → List Nat, (∀ u v, (g (lkB u v)).Perm (g u ++ g v)) → (col g D ++ (t :: l).flatMap g).Perm (col g (D.set k none) ++ (lkB a b :: l).flatMap g) := fun g hg => by
    simp only [List.flatMap_cons]
    have e1 := (col_take g D k x hx).append_right (g t ++ l.flatMap g)
    refine e1.trans ?_
    have e2 : (g x ++ col g (D.set k none) ++ (g t ++ l.flatMap g)).Perm (col g (D.set k none) ++ ((g x ++ g t) ++ l.flatMap g)) := by
      simp only [List.append_assoc]
      exact (List.perm_append_comm_assoc _ _ _)
    refine e2.trans (List.Perm.append_left _ (List.Perm.append_right _ ?_))
    exact (pc g).trans (hg a b).symm
  have PC := pAll Bn.cells lk_cells
  have PI := pAll Bn.items lk_items
  have V := lin_view (s := s) hva.1.ln hvb.1.ln
  have nd1 := h.nd
  have ndn := PC.nodup_iff.1 nd1
  have ndab : (a.cells ++ b.cells).Nodup := by
    have := (List.nodup_append.1 ndn).2.1
    simp only [List.flatMap_cons] at this
    exact (lk_cells a b).nodup_iff.1 (List.nodup_append.1 this).1
  have inab : ∀ c, c ∈ a.cells ++ b.cells → c ∈ (lkB a b :: l).flatMap Bn.cells := fun c hc => by
    simp only [List.flatMap_cons, List.mem_append]
    exact Or.inl ((lk_cells a b).mem_iff.2 hc)
  have outD : ∀ c ∈ col Bn.cells (D.set k none), c ≠ a.n ∧ c ≠ b.n := fun c hc => by
    have hd := (List.nodup_append.1 ndn).2.2
    exact ⟨fun e => hd c hc a.n (inab _ (by simp [Bn.cells])) e, fun e => hd c hc b.n (inab _ (by simp [Bn.cells])) e⟩
  have outL : ∀ c ∈ l.flatMap Bn.cells, c ≠ a.n ∧ c ≠ b.n := fun c hc => by
    have h2 := (List.nodup_append.1 ndn).2.1
    simp only [List.flatMap_cons] at h2
    have hd := (List.nodup_append.1 h2).2.2
    exact ⟨fun e => hd a.n ((lk_cells a b).mem_iff.2 (by simp [Bn.cells])) c hc e.symm, fun e => hd b.n ((lk_cells a b).mem_iff.2 (by simp [Bn.cells])) c hc e.symm⟩
  have keep : ∀ y : Bn, Vb (LS s) (hasS s) y → (∀ c ∈ y.cells, c ≠ a.n ∧ c ≠ b.n) → y.n ∉ y.k.cells → Vb (LS (linS (tk s 6) (a.n : Int) (b.n : Int))) (hasS (linS (tk s 6) (a.n : Int) (b.n : Int))) y := fun y hy hc hn =>
    hy.like (fun c hcc => ⟨by rw [V.1], fun j _ => by rw [V.2]; exact lkN_oth (hc c hcc).1 (hc c hcc).2 j⟩) hn
  have mem_col : ∀ (D : List (Option Bn)) (k : Nat) (y : Bn), D[k]? = some (some y) → ∀ c ∈ y.cells, c ∈ col Bn.cells D := fun D k y hy c hc =>
    (col_take Bn.cells D k y hy).mem_iff.2 (List.mem_append_left _ hc)
  refine ⟨⟨h.sm.trans (sm_lin h.sm.ok _ _), by rw [List.length_set]; exact h.len, fun k' y hy => ?_, fun y hy => ?_, ndn, fun c => ?_, fun c hc j => ?_, ?_⟩, ?_⟩
  · have hne : k' ≠ k := fun e => by
      subst e
      rw [List.getElem?_set_self (by have := (List.getElem?_eq_some_iff.1 hx).1; omega)] at hy
      simp at hy
    have hy' := hy
    rw [List.getElem?_set_ne (fun e => hne e.symm)] at hy'
    obtain ⟨r1, r2, r3⟩ := h.dv k' y hy'
    refine ⟨r1, keep y r2 (fun c hc => outD c (mem_col _ k' y hy c hc)) ?_, r3⟩
    have n1 : (col Bn.cells (D.set k none)).Nodup := (List.nodup_append.1 ndn).1
    have n2 := (col_take Bn.cells _ k' y hy).nodup_iff.1 n1
    have n3 := (List.nodup_append.1 n2).1
    simp only [Bn.cells, List.nodup_cons, List.mem_cons, not_or] at n3
    exact n3.1.2
  · rcases List.mem_cons.1 hy with rfl | hy
    · exact ⟨by
        have := lk_vb hva.1 hvb.1 (by have h1 := hva.2.2; have h2 := hvb.2.2; simp only [Bn.rk] at h1 h2; rw [h1, h2]) ndab
        rw [V.1, V.2]; exact this, lk_gb hva.2.1 hvb.2.1 (by rw [hva.2.2, hvb.2.2]) ho⟩
    · obtain ⟨r2, r3⟩ := h.lv y (by simp [hy])
      have sub : ∀ c ∈ y.cells, c ∈ l.flatMap Bn.cells := fun c hc => List.mem_flatMap.2 ⟨y, hy, hc⟩
      refine ⟨keep y r2 (fun c hc => outL c (sub c hc)) ?_, r3⟩
      have h2 := (List.nodup_append.1 ndn).2.1
      simp only [List.flatMap_cons] at h2
      have h3 := (List.nodup_append.1 h2).2.1
      have h4 : y.cells.Nodup := flat_nodup h3 y hy
      simp only [Bn.cells, List.nodup_cons, List.mem_cons, not_or] at h4
      exact h4.1.2
  · rw [V.2, lkN_key c 7 (by omega), lkN_key c 8 (by omega)]; exact h.key c
  · have hc' : c ∉ col Bn.cells D ++ (t :: l).flatMap Bn.cells := fun e => hc (PC.mem_iff.1 e)
    have hin : ∀ z, z ∈ a.cells ++ b.cells → c ≠ z := fun z hz e => hc (List.mem_append_right _ (e ▸ inab z hz))
    rw [V.2, lkN_oth (hin a.n (by simp [Bn.cells])) (hin b.n (by simp [Bn.cells])) j]
    exact h.oth c hc' j
  · rw [← PI.length_eq]; exact h.small
  · show rkf (Tr.nd b.n b.i b.k a.k) = k + 1
    have h1 := hva.2.2
    have h2 := hvb.2.2
    simp only [Bn.rk] at h1 h2
    rw [rkf_link (by rw [h1, h2]), h1]
/-- a tree takes its place -/
theorem Dg.put {lt : Nat → Nat → Bool} {s0 s : St} {D : List (Option Bn)} {t : Bn} {l : List Bn} (h : Dg lt s0 s D (t :: l)) (hx : D[t.rk]? = some none) : Dg lt s0 s (D.set t.rk (some t)) l := by
  have P : ∀ g : Bn → List Nat, (col g D ++ (t :: l).flatMap g).Perm (col g (D.set t.rk (some t)) ++ l.flatMap g) := fun g => by
    simp only [List.flatMap_cons]
    have := (col_put g D t.rk t hx).append_right (l.flatMap g)
    refine List.Perm.trans ?_ this.symm
    simp only [List.append_assoc]
    exact List.perm_append_comm_assoc _ _ _
  refine ⟨h.sm, by rw [List.length_set]; exact h.len, fun k b hb => ?_, fun b hb => h.lv b (by simp [hb]), (P Bn.cells).nodup_iff.1 h.nd, h.key, fun c hc => h.oth c (fun e => hc ((P Bn.cells).mem_iff.1 e)), by rw [← (P Bn.items).length_eq]; exact h.small⟩
  by_cases e : k = t.rk
  · subst e
    rw [List.getElem?_set_self (by have := (List.getElem?_eq_some_iff.1 hx).1; omega)] at hb
    simp at hb; subst hb
    exact ⟨rfl, h.lv t (by simp)⟩
  · rw [List.getElem?_set_ne (fun q => e q.symm)] at hb
    exact h.dv k b hb
end Go.Proofs.YteibfnclillnnabGreat

/- The walk of carry. -/
namespace Go.Proofs.YteibfnclillnnabGreat
open Go.ChangeShapes Go.WideShapes Go.ChangeAt Go.RowKit
open Tr

def int1 (x : Int) : List Value := [.int .i64 x]
theorem int1_len : ∀ x, (int1 x).length = 1 := fun _ => rfl
theorem int1_one : ∀ x, ∀ v ∈ int1 x, v.oneCell' = true := fun x v h => by simp [int1] at h; subst h; rfl
theorem int1_at : ∀ (l : List Int) (j : Nat), (row int1 l)[j]? = (l[j]?).map fun x => .int .i64 x
  | [], j => by simp [row]
  | x :: r, 0 => by simp [row, int1]
  | x :: r, j + 1 => by simp [row, int1]; simpa using int1_at r j
theorem int1_row_len (l : List Int) : (row int1 l).length = l.length := by rw [row_length int1_len, Nat.mul_one]
theorem int1_set (M : List Int) (j : Nat) (y : Int) (hj : j < M.length) : (row int1 M).set j (.int .i64 y) = row int1 (M.set j y) := by
  have := row_set int1_len M j 0 M[j] y (.int .i64 y) (List.getElem?_eq_getElem hj) (by omega) rfl
  simpa using this

/-- the digits in memory: a block of the call's own -/
def Dl (w : World) (dg cap : Nat) (D : List (Option Bn)) : Prop := w.ownsRow 0 3 1 (.slice (some ⟨dg, 0, none⟩) 16 cap) 16 (row int1 (D.map dig))
theorem Dl.at {w : World} {dg cap : Nat} {D : List (Option Bn)} (h : Dl w dg cap D) (hl : D.length = 16) {k : Nat} {o : Option Bn} (ho : D[k]? = some o) : w.cell? ⟨dg, k, none⟩ = some (.int .i64 (dig o)) := by
  have hk := (List.getElem?_eq_some_iff.1 ho).1
  rw [World.ownsRow.cellAt h k (by omega), int1_at, List.getElem?_map, ho]
  rfl
theorem Dl.set {w : World} {dg cap : Nat} {D : List (Option Bn)} (h : Dl w dg cap D) (hl : D.length = 16) {k : Nat} (hk : k < 16) (o : Option Bn) : Dl (w.setCell ⟨dg, k, none⟩ (.int .i64 (dig o))) dg cap (D.set k o) := by
  have := (World.ownsRow.stored h k (.int .i64 (dig o))).1
  unfold Dl
  rw [List.map_set, ← int1_set _ k (dig o) (by rw [List.length_map]; omega)]
  exact this
theorem Dl.lt {w : World} {dg cap : Nat} {D : List (Option Bn)} (h : Dl w dg cap D) : dg < w.heap.size := (World.ownsRow.lt h dg rfl).2

theorem vb_item {s : St} {b : Bn} (ok : Ok s) (h : Vb (LS s) (hasS s) b) : cellS s (b.n : Int) 6 = (b.i : Int) := cell_nat (j := 6) ok h.ln (by omega) h.item h.li
theorem vb_nb {s : St} {a b : Bn} (ok : Ok s) (ha : Vb (LS s) (hasS s) a) (hb : Vb (LS s) (hasS s) b) : nbS s (a.n : Int) (b.n : Int) = befF (hasS s) a.i b.i := by
  unfold nbS
  rw [vb_item ok ha, vb_item ok hb]
  exact bef_nat ha.li hb.li
theorem bef_key {f f' : Nat → Nat → Int} (h : ∀ c, f c 7 = f' c 7 ∧ f c 8 = f' c 8) (a b : Nat) : befF f a b = befF f' a b := by
  unfold befF; rw [(h a).1, (h a).2, (h b).1, (h b).2]
theorem Dl.kept {w w' : World} {F : Nat → Prop} {dg cap : Nat} {D : List (Option Bn)} (h : Dl w dg cap D) (k : Kept F w w') (hd : ¬ F dg) : Dl w' dg cap D :=
  own_kept h k fun i hi => by cases hi; exact hd

section
variable {F : Nat → Prop} {w w' : World} {pa pm : Nat} {s0 s s' : St}
set_option maxHeartbeats 4000000 in
theorem carryT (dg cap : Nat) (D : List (Option Bn)) (t : Bn) (l : List Bn) (hD : Dg (befF (hasS s0)) s0 s D (t :: l)) (hdl : Dl w dg cap D) (hdg : ¬ F dg)
    (h : IsA w F pa pm s) (hs : s.steps + 12 * ntr D ≤ 99999000) :
    Calls Tryz.prog 84 #[.pointer (some ⟨pa, 0, none⟩), .slice (some ⟨dg, 0, none⟩) 16 cap, .int .i64 (t.n : Int)] w fun e w' =>
      e = .returned (.tuple #[]) ∧ ∃ (D' : List (Option Bn)) (s' : St), Dg (befF (hasS s0)) s0 s' D' l ∧ Dl w' dg cap D' ∧ IsA w' F pa pm s' ∧ Kept (fun b => F b ∨ b = dg) w w' ∧ s.steps ≤ s'.steps ∧ s'.steps + 12 * ntr D' ≤ s.steps + 12 * ntr D + 13 ∧ (col Bn.items D').Perm (col Bn.items D ++ t.items) ∧ (col Bn.cells D').Perm (col Bn.cells D ++ t.cells) := by
  have G := hid (getT (t.n : Int) 4 (Ex.start h) (by omega))
  have hg4 : getS s (t.n : Int) 4 = (t.rk : Int) := by
    have := get_nat (s := s) (c := t.n) (j := 4) (hD.lv t (by simp)).1.ln (by omega)
    rw [(hD.lv t (by simp)).1.rank] at this
    exact this
  rw [hg4] at G
  have HD0 := hid hD
  have HL0 := hid hdl
  have HS := hid hs
  have HDG := hid hdg
  obtain ⟨N0, hN0⟩ : ∃ N0, N0 = s.steps + 12 * ntr D := ⟨_, rfl⟩
  have HN0 := hid hN0
  obtain ⟨P0, hP0⟩ : ∃ P0, P0 = col Bn.items D ++ t.items := ⟨_, rfl⟩
  have HP0 := hid hP0
  obtain ⟨C0, hC0⟩ : ∃ C0, C0 = col Bn.cells D ++ t.cells := ⟨_, rfl⟩
  have HC0 := hid hC0
  obtain ⟨q0, hq0⟩ : ∃ q0, q0 = s.steps := ⟨_, rfl⟩
  have HQ0 := hid hq0
  clear hD hdl h hg4 hs hdg hN0 hP0 hC0 hq0
  go_enter Tryz.func84, Tryz.ntmps84
  go_wp2_with fail
  refine G.out.mono ?_
  rintro e w1 ⟨rfl, h1⟩
  have H1 := hid h1
  clear h1 G
  go_wp2_with fail
  go_loopw [2, 6] (fun tv kv wr => ∃ (D : List (Option Bn)) (t : Bn) (s : St), tv = .int .i64 (t.n : Int) ∧ kv = .int .i64 (t.rk : Int) ∧ Hid (Dg (befF (hasS s0)) s0 s D (t :: l)) ∧ Hid (Dl wr dg cap D) ∧ Hid (IsA wr F pa pm s) ∧ Hid (Kept (fun b => F b ∨ b = dg) w wr) ∧ Hid (q0 ≤ s.steps ∧ s.steps + 12 * ntr D ≤ N0 + 1) ∧ Hid (P0.Perm (col Bn.items D ++ t.items) ∧ C0.Perm (col Bn.cells D ++ t.cells))) (fun _ kv _ => 16 - (intOf kv).toNat)
  case atStart => exact ⟨D, t, tk s 1, rfl, rfl, hid ⟨HD0.out.sm.trans (Sm.tk HD0.out.sm.ok 1), HD0.out.len, HD0.out.dv, HD0.out.lv, HD0.out.nd, HD0.out.key, HD0.out.oth, HD0.out.small⟩, hid (HL0.out.kept H1.out.kept HDG.out), hid H1.out.is, hid (H1.out.kept.mono fun _ e => Or.inl e), hid ⟨by show q0 ≤ s.steps + 1; rw [HQ0.out]; omega, by show s.steps + 1 + _ ≤ _; rw [HN0.out]; omega⟩, hid ⟨by rw [HP0.out], by rw [HC0.out]⟩⟩
  case round =>
    clear HD0 HL0 H1
    have HSN := hid (show N0 ≤ 99999000 by rw [HN0.out]; exact HS.out)
    clear HS
    obtain ⟨E, u, r, rfl, rfl, hD, hL, hA, hK, hN, hP⟩ := hrel
    have hrk := hD.out.rk
    have hrk' : (u.rk : Int) < 16 := by omega
    have hrk0 : 0 ≤ (u.rk : Int) := by omega
    have hl16 := hid hD.out.len
    have hkD : u.rk < E.length := by rw [hl16.out]; exact hrk
    obtain ⟨o, ho⟩ : ∃ o, E[u.rk]? = some o := ⟨_, List.getElem?_eq_getElem hkD⟩
    have c1 := hL.out.at hl16.out ho
    have f1 := World.ownsRow.frozenAt hL.out u.rk
    cases o with
    | none =>
      have c1' : wr.cell? ⟨dg, u.rk, none⟩ = some (.int .i64 (-1)) := c1
      have HO := hid ho
      clear ho c1 hkD
      go_wp2
      refine bodyPost_ret (results_none rfl _ _ _) rfl ?_
      refine ⟨rfl, E.set u.rk (some u), r, hD.out.put HO.out, hL.out.set hl16.out hrk (some u), hA.out.kept ((Kept.refl (fun b => b = dg) _).setCell (Or.inl rfl) _) (fun k hk e => HDG.out (e ▸ hk)), hK.out.setCell (Or.inl (Or.inr rfl)) _, by rw [← HQ0.out]; exact hN.out.1, ?_, ?_, ?_⟩
      · rw [ntr_put HO.out, ← HN0.out]; have := hN.out.2; omega
      · rw [← HP0.out]
        exact (col_put Bn.items E u.rk u HO.out).trans (List.perm_append_comm.trans hP.out.1.symm)
      · rw [← HC0.out]
        exact (col_put Bn.cells E u.rk u HO.out).trans (List.perm_append_comm.trans hP.out.2.symm)
    | some b =>
      have c1' : wr.cell? ⟨dg, u.rk, none⟩ = some (.int .i64 (b.n : Int)) := c1
      have hne : ((b.n : Int) == -1) = false := by simp
      have HO := hid ho
      obtain ⟨d1, d2, d3⟩ := hD.out.dv u.rk b ho
      obtain ⟨t1, t2⟩ := hD.out.lv u (by simp)
      have hnt := ntr_take ho
      have LK := hid (blinkT (b.n : Int) (u.n : Int) ⟨by rw [lin_get4 d2.ln t1.ln, d2.rank]; have hr2 : rkf b.k < 16 := (show rkf b.k = u.rk from d1) ▸ hrk; constructor <;> omega, by rw [lin_get4 t1.ln d2.ln, t1.rank]; have hr2 : rkf u.k < 16 := hrk; constructor <;> omega⟩ (Ex.start hA.out) (by have := hN.out.2; have := HSN.out; omega))
      have hnb : nbS r (u.n : Int) (b.n : Int) = befF (hasS s0) u.i b.i := (vb_nb hD.out.sm.ok t1 d2).trans (bef_key hD.out.key _ _)
      -- what comes of it
      obtain ⟨v, s2, NX, EV, ES⟩ : ∃ (v : Bn) (s2 : St), Hid (Dg (befF (hasS s0)) s0 s2 (E.set u.rk none) (v :: l) ∧ v.rk = u.rk + 1 ∧ s2.steps = r.steps + 12 ∧ v.items.Perm (b.items ++ u.items) ∧ v.cells.Perm (b.cells ++ u.cells)) ∧
          Hid ((if nbS r (u.n : Int) (b.n : Int) = true then (u.n : Int) else (b.n : Int)) = (v.n : Int)) ∧ Hid ((if nbS r (u.n : Int) (b.n : Int) = true then linS (tk r 6) (u.n : Int) (b.n : Int) else linS (tk r 6) (b.n : Int) (u.n : Int)) = s2) := by
        rw [hnb]
        cases q : befF (hasS s0) u.i b.i
        · have := hD.out.link ho rfl (Or.inr ⟨rfl, rfl⟩) q
          exact ⟨lkB b u, linS (tk r 6) (b.n : Int) (u.n : Int), hid ⟨this.1, this.2, by rw [lin_steps]; rfl, lk_items b u, lk_cells b u⟩, hid (by simp [lkB]), hid (by simp)⟩
        · have := hD.out.link ho rfl (Or.inl ⟨rfl, rfl⟩) ((befF_tot (hasS s0)).one _ _ q)
          exact ⟨lkB u b, linS (tk r 6) (u.n : Int) (b.n : Int), hid ⟨this.1, this.2, by rw [lin_steps]; rfl, (lk_items u b).trans List.perm_append_comm, (lk_cells u b).trans List.perm_append_comm⟩, hid (by simp [lkB]), hid (by simp)⟩
      rw [EV.out, ES.out] at LK
      have CT := hid (col_take Bn.items E u.rk b ho)
      have CU := hid (col_take Bn.cells E u.rk b ho)
      clear ho c1 hkD EV ES hnb d1 d2 d3 t1 t2
      go_wp2_with fail
      refine LK.out.mono ?_
      rintro e w2 ⟨rfl, e2⟩
      have E2 := hid e2
      have L2 := hid (hL.out.kept e2.kept HDG.out)
      have c2 := L2.out.at hl16.out HO.out
      have f2 := World.ownsRow.frozenAt L2.out u.rk
      clear e2 LK
      go_wp2
      go_roundw
      case rel => exact ⟨E.set u.rk none, v, s2, rfl, by rw [NX.out.2.1]; go_num, hid NX.out.1, hid (L2.out.set hl16.out hrk none), hid (E2.out.is.kept ((Kept.refl (fun b => b = dg) _).setCell (Or.inl rfl) _) (fun k hk e => HDG.out (e ▸ hk))), hid ((hK.out.trans' (E2.out.kept.mono fun _ e => Or.inl e)).setCell (Or.inl (Or.inr rfl)) _), hid ⟨by rw [NX.out.2.2.1]; have := hN.out.1; omega, by rw [NX.out.2.2.1]; have := hN.out.2; omega⟩, hid ⟨by
          refine hP.out.1.trans ?_
          refine (CT.out.append_right u.items).trans ?_
          refine (List.perm_append_comm.append_right u.items).trans ?_
          rw [List.append_assoc]
          exact List.Perm.append_left _ NX.out.2.2.2.1.symm, by
          refine hP.out.2.trans ?_
          refine (CU.out.append_right u.cells).trans ?_
          refine (List.perm_append_comm.append_right u.cells).trans ?_
          rw [List.append_assoc]
          exact List.Perm.append_left _ NX.out.2.2.2.2.symm⟩⟩
      case measure => simp [intOf]; omega
end
end Go.Proofs.YteibfnclillnnabGreat

/- Lists of numbers of a call's own; numbers appended to them. -/
namespace Go.Proofs.YteibfnclillnnabGreat
open Go.ChangeShapes Go.WideShapes Go.ChangeAt Go.RowKit

theorem info3i : (Tryz.prog.info? 3).map (fun i => (i.zero, i.size, i.bytes)) = some (some (.int .i64 0), 1, 8) := by kernel_rfl

/-- a list that lies in memory -/
def Lst (w : World) (v : Value) (l : List Int) : Prop :=
  ∃ a c, v = .slice a l.length c ∧ l.length ≤ c ∧ c ≤ maxLen ∧ (a = none → c = 0) ∧ (l = [] ∨ ∃ b off, a = some ⟨b, off, none⟩ ∧ b < w.heap.size ∧ ∀ (i : Nat) (x : Int), l[i]? = some x → w.cell? ⟨b, off + i, none⟩ = some (.int .i64 x))

theorem Lst.below {w w' : World} {v : Value} {l : List Int} (h : Lst w v l) (k : Below w.heap.size w w') : Lst w' v l := by
  obtain ⟨a, c, e, h1, h2, h3, h4⟩ := h
  refine ⟨a, c, e, h1, h2, h3, ?_⟩
  rcases h4 with h4 | ⟨b, off, e, hb, hc⟩
  · exact Or.inl h4
  · exact Or.inr ⟨b, off, e, Nat.lt_of_lt_of_le hb k.size, fun i x hx => (k.cell (p := ⟨b, _, none⟩) hb).trans (hc i x hx)⟩
theorem Lst.nil (w : World) : Lst w (.slice none 0 0) [] := ⟨none, 0, rfl, Nat.le_refl _, Nat.zero_le _, fun _ => rfl, Or.inl rfl⟩

/-- a list that the call owns -/
def Own (w : World) (B : Nat) (v : Value) (l : List Int) : Prop := w.ownsRow B 3 1 v l.length (row int1 l)

theorem Own.lst {w : World} {B : Nat} {v : Value} {l : List Int} (h : Own w B v l) : Lst w v l := by
  rcases h.2 with ⟨rfl, h0⟩ | ⟨g, cap, cur, rfl, hb, hg, h1, h2, h3, h4⟩
  · have := List.eq_nil_of_length_eq_zero h0
    subst this
    exact Lst.nil w
  · refine ⟨some ⟨g, 0, none⟩, cap, rfl, h1, h2, (fun e => by cases e), Or.inr ⟨g, 0, rfl, lt_of_block hg, fun i x hx => ?_⟩⟩
    have hi : i < l.length := (List.getElem?_eq_some_iff.1 hx).1
    have := World.ownsRow.cellAt h (g := g) (cap := cap) i (by omega)
    rw [int1_at, hx] at this
    simpa using this
theorem Own.base {w : World} {B B' : Nat} {v : Value} {l : List Int} (h : Own w B v l) (hb : B' ≤ B) : Own w B' v l := by
  refine ⟨h.1, ?_⟩
  rcases h.2 with h' | ⟨g, cap, cur, rfl, hb', r⟩
  · exact Or.inl h'
  · exact Or.inr ⟨g, cap, cur, rfl, Nat.le_trans hb hb', r⟩
theorem Own.nil (w : World) (B : Nat) : Own w B (.slice none 0 0) [] := World.ownsRow_nil w B 3 1
theorem below_grown {w w' : World} {v : Value} {n : Nat} {xs : List Value} {w0 : World} (h : w.ownsRow w0.heap.size 3 1 v n xs) (g : w.grownBy w' v.ownBlock) (k : Below w0.heap.size w0 w) : Below w0.heap.size w0 w' :=
  k.grown g k.size fun j hj => (h.lt j hj).1

theorem append_lst {base : Nat} (w : World) (ty : TypeId) (v x : Value) (n : Nat) (xs : List Value) (l : List Int) (hown : w.ownsRow base 3 1 v n xs) (hx : Lst w x l) (h63 : n + l.length ≤ 1000000) (hbase : base ≤ w.heap.size) :
    ∃ v' w', (Builtin.append_ #[23, 23] ty #[v, x]).run Tryz.prog w = .ok v' w' ∧ w'.ownsRow base 3 1 v' (n + l.length) (xs ++ row int1 l) ∧ w.grownBy w' v.ownBlock := by
  obtain ⟨i, hi, h0, h1, h2⟩ := info_parts info3i
  obtain ⟨a, c, rfl, q1, q2, q3, q4⟩ := hx
  cases a with
  | none =>
    have hc := q3 rfl
    subst hc
    have hl : l = [] := List.eq_nil_of_length_eq_zero (by omega)
    subst hl
    exact ⟨v, w, run_append_owned_none (P := Tryz.prog) w base 23 ty 3 i 1 Tryz.underlying23 hi v n xs hown, by simpa [row] using hown, ⟨rfl, rfl, rfl, Nat.le_refl _, fun _ _ _ => rfl⟩⟩
  | some ad =>
    obtain ⟨v', w', hr, p1, p2, _⟩ := run_append_own (P := Tryz.prog) w base 23 ty 3 i _ 1 8 Tryz.underlying23 hi h0 h1 h2 rfl (by decide) v n xs hown ad l.length c (row int1 l) (by rw [int1_row_len, Nat.mul_one]) (fun j u hu => by
      rw [int1_at] at hu
      cases hj : l[j]? with
      | none => simp [hj] at hu
      | some y =>
        simp [hj] at hu
        subst hu
        rcases q4 with rfl | ⟨b, off, e, hb, hc⟩
        · simp at hj
        · cases e
          have := hc j y hj
          rwa [show (⟨b, off, none⟩ : Addr).add j = ⟨b, off + j, none⟩ by unfold Addr.add; split <;> simp_all]) (row_one int1_one l) (by simp [maxLen]; omega) (by omega) hbase
    exact ⟨v', w', hr, p1, p2⟩

theorem wpList_append_lst {ops : Array Oper} {rest : List Oper} {o : Oper} {a : Act} {w : World} {Q : Exit → Act → World → Prop} (hgd : o.guard = none) (s y : Operand)
    (ho : o.op = .call { callee := .builtin .append, args := #[s, y], argTypes := #[23, 23] })
    (base : Nat) (v x : Value) (n : Nat) (xs : List Value) (l : List Int) (hs : a.eval s = v) (hy : a.eval y = x) (hown : w.ownsRow base 3 1 v n xs) (hx : Lst w x l)
    (h63 : n + l.length ≤ 1000000) (hbase : base ≤ w.heap.size)
    (h : ∀ v' w', w'.ownsRow base 3 1 v' (n + l.length) (xs ++ row int1 l) → w.grownBy w' v.ownBlock → wpList Tryz.prog ops Q rest (a.put o.dst v') w') : wpList Tryz.prog ops Q (o :: rest) a w := by
  refine wpList_plain hgd fun _ hK => ?_
  obtain ⟨v', w', hr, h2, h3⟩ := append_lst w o.type v x n xs l hown hx h63 hbase
  unfold Oper.wp execOp
  simp only [ho, resolve, invoke, builtin, Sem.run_bind, Sem.run_pure, Result.andThen_ok, List.map_toArray, List.map_cons, List.map_nil, hs, hy, hr]
  exact hK _ _ (h v' w' h2 h3)
theorem step_append_lst {ops : Array Oper} {o : Oper} {a : Act} {w : World} {K : Act → World → Prop} {Q : Exit → Act → World → Prop} {E : Prop} (hgd : o.guard = none) (s y : Operand)
    (ho : o.op = .call { callee := .builtin .append, args := #[s, y], argTypes := #[23, 23] })
    (base : Nat) (v x : Value) (n : Nat) (xs : List Value) (l : List Int) (hs : a.eval s = v) (hy : a.eval y = x) (hown : w.ownsRow base 3 1 v n xs) (hx : Lst w x l)
    (h63 : n + l.length ≤ 1000000) (hbase : base ≤ w.heap.size)
    (h : ∀ v' w', w'.ownsRow base 3 1 v' (n + l.length) (xs ++ row int1 l) → w.grownBy w' v.ownBlock → K (a.put o.dst v') w') :
    if Region.wanted o (yielded ops a.tmps) = true then Oper.wp Tryz.prog o a w K Q else E := by
  have hw : Region.wanted o (yielded ops a.tmps) = true := by simp [Region.wanted, hgd]
  rw [if_pos hw]
  obtain ⟨v', w', hr, h2, h3⟩ := append_lst w o.type v x n xs l hown hx h63 hbase
  unfold Oper.wp execOp
  simp only [ho, resolve, invoke, builtin, Sem.run_bind, Sem.run_pure, Result.andThen_ok, List.map_toArray, List.map_cons, List.map_nil, hs, hy, hr]
  exact h v' w' h2 h3

theorem own_lit0 (w : World) (B : Nat) (hB : B ≤ w.heap.size) (l0 : List Int) (hl : l0.length ≤ 1000) (cs : Array Value) (hcs : cs = (row int1 l0).toArray) : Own (w.alloc (.cells cs 3)) B (.slice (some ⟨w.heap.size, 0, none⟩) l0.length l0.length) l0 := by
  subst hcs
  exact World.ownsRow_lit (base := B) (e := 3) (size := 1) w (row int1 l0).toArray l0.length hB (by unfold maxLen; omega) (by simp [int1_row_len])

end Go.Proofs.YteibfnclillnnabGreat

/- slices.Index and slices.Contains over numbers. -/
namespace Go.Proofs.YteibfnclillnnabGreat
open Go.ChangeShapes Go.WideShapes Go.ChangeAt Go.RowKit

set_option maxHeartbeats 1000000 in
theorem indexT (l : List Int) (v : Value) (x : Int) (w : World) (hL : Lst w v l) (hl : l.length ≤ 1000) :
    Calls Tryz.prog 88 #[v, .int .i64 x] w fun e w' => ∃ k : Int, e = .returned (.int .i64 k) ∧ decide (0 ≤ k) = decide (x ∈ l) ∧ w' = w := by
  obtain ⟨va, vc, rfl, z1, _, _, z4⟩ := hL
  have Z4 := hid z4
  clear z4
  go_enter Tryz.func88, Tryz.ntmps88
  go_wp2
  go_loopw [5, 8] (fun _ iv wr => ∃ j : Nat, iv = .int .i64 (j : Int) ∧ j ≤ l.length ∧ Hid (x ∉ l.take j) ∧ w = wr) (fun _ iv _ => l.length - (intOf iv).toNat)
  case atStart => exact ⟨0, rfl, Nat.zero_le _, hid (by simp), rfl⟩
  case round =>
    obtain ⟨j, rfl, hj, hn, rfl⟩ := hrel
    by_cases hlt : j < l.length
    · have hx : l[j]? = some l[j] := List.getElem?_eq_getElem hlt
      have HM := hid (show l[j] ∈ l from List.getElem_mem hlt)
      have HT := hid (show l.take (j + 1) = l.take j ++ [l[j]] by rw [List.take_add_one, hx]; rfl)
      generalize l[j] = y at hx HM HT
      rcases Z4.out with e | ⟨b, off, rfl, hb, hc⟩
      · rw [e] at hlt; simp at hlt
      have c1 : w.cell? ⟨b, off + j, none⟩ = some (.int .i64 y) := hc _ _ hx
      have hlt' : (j : Int) < (l.length : Int) := by omega
      clear hx hc
      by_cases q : x = y
      · have hq : (x == y) = true := by simp [q]
        have HQ := hid q
        clear q
        go_wp2
        refine bodyPost_ret (results_tmp rfl _ _ _) rfl ?_
        refine ⟨(j : Int), rfl, ?_, rfl⟩
        rw [HQ.out]
        simp [HM.out]
      · have hq : (x == y) = false := by simp [q]
        have HQ := hid q
        clear q
        go_wp2
        go_roundw
        case rel => exact ⟨j + 1, by go_num, by omega, hid (by rw [HT.out]; have := hn.out; have := HQ.out; simp_all), by simp⟩
        case measure => simp [intOf]; omega
    · obtain rfl : j = l.length := by omega
      have HN := hid (show x ∉ l from by have := hn.out; rwa [List.take_length] at this)
      clear hn
      go_wp2
      go_ret
      exact ⟨-1, rfl, by simp [HN.out], rfl⟩

set_option maxHeartbeats 1000000 in
theorem containsT (l : List Int) (v : Value) (x : Int) (w : World) (hL : Lst w v l) (hl : l.length ≤ 1000) :
    Calls Tryz.prog 76 #[v, .int .i64 x] w fun e w' => e = .returned (.bool (decide (x ∈ l))) ∧ w' = w := by
  have I := hid (indexT l v x w hL hl)
  clear hL
  go_enter Tryz.func76, Tryz.ntmps76
  go_wp2_with fail
  refine I.out.mono ?_
  rintro e w2 ⟨k, rfl, hk, h2⟩
  have h2 := h2.symm
  subst h2
  have HK := hid hk
  clear hk I
  go_wp2
  go_ret
  refine ⟨?_, rfl⟩
  rw [← HK.out]
  try rfl
end Go.Proofs.YteibfnclillnnabGreat

/- The walk of trees: a heap's top nodes. -/
namespace Go.Proofs.YteibfnclillnnabGreat
open Go.ChangeShapes Go.WideShapes Go.ChangeAt Go.RowKit
open Tr

/-- the first one's node -/
def headr : List Bn → Int
  | [] => -1
  | b :: _ => (b.n : Int)
theorem headr_nil : headr [] = -1 := rfl
theorem headr_cons (b : Bn) (r : List Bn) : headr (b :: r) = (b.n : Int) := rfl
def lenV : Value → Nat
  | .slice _ n _ => n
  | _ => 0
/-- each leads to the next one, Ranks rise -/
def Chn (f : Nat → Nat → Int) : Int → List Bn → Prop
  | _, [] => True
  | last, b :: r => last < (b.rk : Int) ∧ f b.n 3 = headr r ∧ Chn f (b.rk : Int) r
/-- the same, but the first two may have one Rank; k: how many are done -/
def Chs (f : Nat → Nat → Int) : Nat → Int → List Bn → Prop
  | _, _, [] => True
  | k, last, b :: r => (last < (b.rk : Int) ∨ (k = 1 ∧ last = (b.rk : Int))) ∧ f b.n 3 = headr r ∧ Chs f (k + 1) (b.rk : Int) r
theorem Chn.chs {f : Nat → Nat → Int} : ∀ {l : List Bn} {k : Nat} {last : Int}, Chn f last l → Chs f k last l
  | [], _, _, _ => trivial
  | _ :: _, _, _, h => ⟨Or.inl h.1, h.2.1, Chn.chs h.2.2⟩
theorem Chs.chn {f : Nat → Nat → Int} : ∀ {l : List Bn} {k : Nat} {last : Int}, 2 ≤ k → Chs f k last l → Chn f last l
  | [], _, _, _, _ => trivial
  | _ :: _, _, _, hk, h => ⟨h.1.resolve_right fun e => by omega, h.2.1, Chs.chn (by omega) h.2.2⟩
def nds (l : List Bn) : List Int := l.map fun b => (b.n : Int)

theorem vb_root {s : St} {b : Bn} (ok : Ok s) (h : Vb (LS s) (hasS s) b) : rootS s (b.n : Int) = (b.n : Int) := by
  unfold rootS
  rw [vb_item ok h, show cellS s (b.i : Int) 9 = (b.n : Int) from cell_nat (j := 9) ok h.li (by omega) h.node h.ln, show cellS s (b.n : Int) 0 = -1 from cell_neg (j := 0) h.ln (by omega) h.up, if_pos ⟨rfl, rfl⟩]
theorem headr_cell {s : St} {l : List Bn} (hv : ∀ b ∈ l, Vb (LS s) (hasS s) b) : headr l = -1 ∨ ∃ c : Nat, headr l = (c : Int) ∧ LS s c = true := by
  cases l with
  | nil => exact Or.inl rfl
  | cons b r => exact Or.inr ⟨b.n, rfl, (hv b (by simp)).ln⟩

section
variable {F : Nat → Prop} {w w' : World} {pa pm : Nat} {s0 s s' : St}
set_option maxHeartbeats 4000000 in
theorem treesT (ts : List Bn) (hv : ∀ b ∈ ts, Vb (LS s) (hasS s) b) (hc : Chs (hasS s) 0 (-1) ts) (hnd : (ts.map Bn.n).Nodup) (ok : Ok s) (hl : ts.length ≤ 100) (hrk : ∀ b ∈ ts, b.rk < 100) (h : IsA w F pa pm s) (hs : s.steps ≤ 99990000) :
    Calls Tryz.prog 30 #[.pointer (some ⟨pa, 0, none⟩), .int .i64 (headr ts)] w fun e w' =>
      ∃ v k, e = .returned v ∧ Own w' w.heap.size v (nds ts) ∧ k ≤ 3 + 3 * ts.length ∧ IsA w' F pa pm (tk s k) ∧ Kept F w w' := by
  have R := hid (rootT (headr ts) (Ex.start h) (by omega))
  have hr : rootS s (headr ts) = headr ts := by
    cases ts with
    | nil => exact root_none
    | cons b r => exact vb_root ok (hv b (by simp))
  rw [hr] at R
  obtain ⟨r0, hr0⟩ : ∃ r0, r0 = headr ts := ⟨_, rfl⟩
  have HR0 := hid hr0
  rw [← hr0] at R ⊢
  clear hr0
  have HV := hid hv
  have HC := hid hc
  have HND := hid hnd
  have OK := hid ok
  have HRK := hid hrk
  have HFL := hid h.lt
  clear hv hc hnd ok h hr hrk
  go_enter Tryz.func30, Tryz.ntmps30
  go_wp2_with fail
  refine R.out.mono ?_
  rintro e w1 ⟨rfl, k1, hk1, h1⟩
  have H1 := hid h1
  clear h1 R
  go_wp2
  go_loopw [5, 6, 7] (fun lv nv tv wr => ∃ (done rest : List Bn) (last : Int) (k : Nat), Hid (ts = done ++ rest) ∧ nv = .int .i64 last ∧ -1 ≤ last ∧ last < 100 ∧ tv = .int .i64 (headr rest) ∧ Hid (Chs (hasS s) done.length last rest) ∧ Hid (Own wr w.heap.size lv (nds done)) ∧ k ≤ 3 + 3 * done.length ∧ Hid (IsA wr F pa pm (tk s k)) ∧ Hid (Kept F w wr)) (fun lv _ _ _ => ts.length + 1 - lenV lv)
  case atStart => exact ⟨[], ts, -1, k1, hid rfl, rfl, by omega, by omega, by rw [HR0.out], HC, hid (Own.nil _ _), by omega, hid H1.out.is, hid H1.out.kept⟩
  case round =>
    clear H1 HC
    obtain ⟨done, rest, last, k, hts, rfl, hl1, hl2, rfl, hch, ho, hk, hA, hK⟩ := hrel
    have hlen : done.length + rest.length = ts.length := by rw [hts.out]; simp
    obtain ⟨la, lc, rfl⟩ := own_form ho.out
    have hnl : (nds done).length = done.length := by simp [nds]
    rw [hnl]
    cases rest with
    | nil =>
      have HD : Hid (ts = done) := hid (by rw [hts.out]; simp)
      rw [headr_nil]
      clear hch
      go_wp2
      go_ret
      have ho' := ho.out
      rw [hnl] at ho'
      exact ⟨_, k, rfl, by rw [HD.out]; exact ho', by rw [HD.out]; exact hk, hA.out, hK.out⟩
    | cons b r =>
      have hb := HV.out b (by rw [hts.out]; simp)
      have hbr := HRK.out b (by rw [hts.out]; simp)
      obtain ⟨c1, c2, c3⟩ := hch.out
      have HC3 := hid c3
      rw [headr_cons]
      have G4 := hid (getT (b.n : Int) 4 (Ex.start hA.out) (by show s.steps + k ≤ _; omega))
      rw [show getS (tk s k) (b.n : Int) 4 = (b.rk : Int) from (get_nat (s := s) (j := 4) hb.ln (by omega)).trans hb.rank] at G4
      have ne1 : ((b.n : Int) != -1) = true := by simp
      have HO := hid (show Own wr w.heap.size (.slice la done.length lc) (nds done) by have := ho.out; rwa [hnl] at this)
      have HC1 := hid c1
      have HTS := hid hts.out
      clear hch ho c1 hts
      go_wp2_with fail
      refine G4.out.mono ?_
      rintro e w2 ⟨rfl, h2⟩
      have C0 := hid (cellT (b.n : Int) 0 (Ex.start h2.is) (by show s.steps + k + 1 ≤ _; omega))
      rw [show cellS (tk (tk s k) 1) (b.n : Int) 0 = -1 from cell_neg (s := s) (j := 0) hb.ln (by omega) hb.up] at C0
      have H2 := hid h2
      have O2 := hid (show Own w2 w.heap.size (.slice la done.length lc) (nds done) from own_kept HO.out h2.kept (fun i hi hF => by have := (World.ownsRow.lt HO.out i hi).1; have := HFL.out i hF; omega))
      clear h2 G4
      go_upto_region 7 with fail
      go_cut [9] from 21 to 36 (fun v wx => v = .bool (decide ((b.rk : Int) = last)) ∧ wx = w2)
      case first =>
        by_cases q : (b.rk : Int) = last
        · have hd1 : done.length = 1 := by rcases HC1.out with z | z <;> omega
          obtain ⟨a0, rfl⟩ : ∃ a0, done = [a0] := by
            cases done with
            | nil => simp at hd1
            | cons x y => cases y with
              | nil => exact ⟨x, rfl⟩
              | cons z y => simp at hd1
          have hne : a0.n ≠ b.n := fun e => by
            have := HND.out
            rw [HTS.out] at this
            simp [e] at this
          rcases (Own.lst O2.out) with ⟨a', c', e, y1, y2, y3, y4⟩
          have e1 : la = a' ∧ lc = c' := by injection e; exact ⟨by assumption, by assumption⟩
          obtain ⟨e1, e2⟩ := e1
          subst e1 e2
          rcases y4 with y | ⟨bl, off, e2, hb', hc'⟩
          · simp [nds] at y
          · subst e2
            have cc := hc' 0 (a0.n : Int) (by simp [nds])
            rw [Nat.add_zero] at cc
            have nn : ((b.n : Int) != (a0.n : Int)) = true := by simp; omega
            have eqk : ((b.rk : Int) == last) = true := by simp [q]
            clear hc' e y1 y2 y3 hd1
            go_wp2
            go_meet
            case rel => exact ⟨by simp [q], rfl⟩
        · have eqk : ((b.rk : Int) == last) = false := by simp [q]
          by_cases q1 : done.length = 1
          · have l1 : ((done.length : Int) == 1) = true := by simp; omega
            go_wp2
            go_meet
            case rel => exact ⟨by simp [q], rfl⟩
          · have l1 : ((done.length : Int) == 1) = false := by simp; omega
            go_wp2
            go_meet
            case rel => exact ⟨by simp [q], rfl⟩
      case rest =>
      obtain ⟨rfl, e2⟩ := hcut
      have e3 := e2.symm
      clear e2
      subst e3
      have hts := hid HTS.out
      go_upto_region 8 with fail
      go_cut [9, 48] from 36 to 49 (fun _ v wx => v = .bool false ∧ Hid (Ex F w2 wx pa pm (tk (tk (tk s k) 1) 1)))
      case first =>
        by_cases q : (b.rk : Int) = last
        · have d1 : decide ((b.rk : Int) = last) = true := by simp [q]
          have d2 : decide ((b.rk : Int) ≤ last) = true := by simp; omega
          clear q
          go_wp2_with fail
          refine C0.out.mono ?_
          rintro e w3 ⟨rfl, h3⟩
          have H3 := hid h3
          clear h3
          go_wp2
          go_meet
          case rel => exact ⟨rfl, H3⟩
        · have d1 : decide ((b.rk : Int) = last) = false := by simp [q]
          have d2 : decide ((b.rk : Int) ≤ last) = false := by
            have := HC1.out
            simp
            omega
          clear q
          go_wp2_with fail
          refine C0.out.mono ?_
          rintro e w3 ⟨rfl, h3⟩
          have H3 := hid h3
          clear h3
          go_wp2
          go_meet
          case rel => exact ⟨rfl, H3⟩
      case rest =>
      rename World => w3
      obtain ⟨rfl, h3⟩ := hcut
      have H3 := h3
      have K3 := hid (H2.out.kept.trans' h3.out.kept)
      clear h3 C0 H2 O2
      have O3 := hid (show Own w3 w.heap.size (.slice la done.length lc) (nds done) from own_kept HO.out K3.out (fun i hi hF => by have := (World.ownsRow.lt HO.out i hi).1; have := HFL.out i hF; omega))
      have KK3 := hid (hK.out.trans' K3.out)
      have hsz := KK3.out.size
      clear K3 HO hK
      have OA := hid (show (w3.alloc (.cells #[.int .i64 (b.n : Int)] 3)).ownsRow w.heap.size 3 1 (.slice la done.length lc) done.length (row int1 (nds done)) from by have := O3.out; unfold Own at this; rw [hnl] at this; exact World.ownsRow.alloc this _)
      go_wp2_with (at_builtin; refine wpList_append_lst rfl (.tmp 49) (.tmp 51) rfl w.heap.size _ _ done.length (row int1 (nds done)) [(b.n : Int)] rfl rfl (by exact OA.out) (by exact (own_lit0 _ 0 (Nat.zero_le _) [(b.n : Int)] (by simp) _ rfl).lst) (by simp; omega) (by simp; omega) ?_; intro v4 w4 o4 g4; have O4 := hid o4; have G4 := hid g4; clear o4 g4)
      have hrow : ∀ i, (Value.slice la done.length lc).ownBlock = some i → w.heap.size ≤ i := fun i hi => (World.ownsRow.lt OA.out i hi).1
      have K4 := hid ((KK3.out.alloc (.cells #[.int .i64 (b.n : Int)] 3)).grown G4.out (fun i hi => Or.inr (hrow i hi)))
      have A4 := hid (H3.out.is.kept (((Kept.refl (fun i => w.heap.size ≤ i) w3).alloc (.cells #[.int .i64 (b.n : Int)] 3)).grown G4.out (fun i hi => Or.inl (hrow i hi))) (fun i hF hi => by have := HFL.out i hF; omega))
      have C5 := hid (cellT (b.n : Int) 3 (Ex.start A4.out) (by show s.steps + k + 1 + 1 ≤ _; omega))
      have hcv : cellS (tk (tk (tk s k) 1) 1) (b.n : Int) 3 = headr r := by
        show cellS s (b.n : Int) 3 = headr r
        cases r with
        | nil => exact cell_neg (j := 3) hb.ln (by omega) c2
        | cons c r' => exact cell_nat (j := 3) OK.out hb.ln (by omega) c2 (HV.out c (by rw [hts.out]; simp)).ln
      rw [hcv] at C5
      clear hcv KK3 H3 G4 OA hrow c2
      refine C5.out.mono ?_
      rintro e w5 ⟨rfl, h5⟩
      have H5 := hid h5
      have O5 := hid (show Own w5 w.heap.size v4 (nds (done ++ [b])) from by
        have : Own w4 w.heap.size v4 (nds (done ++ [b])) := by
          have := O4.out
          unfold Own
          rw [show nds (done ++ [b]) = nds done ++ [(b.n : Int)] by simp [nds], row_append, List.length_append, hnl]
          exact this
        exact own_kept this h5.kept (fun i hi hF => by have := (World.ownsRow.lt this i hi).1; have := HFL.out i hF; omega))
      have K5 := hid (K4.out.trans' h5.kept)
      clear h5 C5 O4 K4 A4
      go_wp2
      go_roundw
      case rel => exact ⟨done ++ [b], r, (b.rk : Int), k + 3, hid (by rw [hts.out]; simp), rfl, by omega, by omega, rfl, hid (by have := HC3.out; simpa using this), O5, by simp; omega, hid H5.out.is, K5⟩
      case measure =>
        obtain ⟨a5, c5, rfl⟩ := own_form O5.out
        simp only [lenV, nds, List.length_map, List.length_append, List.length_cons, List.length_nil]
        simp only [List.length_cons] at hlen
        first | omega | (simp [lenV]; omega)
end
end Go.Proofs.YteibfnclillnnabGreat

/- The walk of children. -/
namespace Go.Proofs.YteibfnclillnnabGreat
open Go.ChangeShapes Go.WideShapes Go.ChangeAt Go.RowKit
open Tr

/-- how a node of a heap lies, wherever it is: what is above it, and its Right, are left open -/
structure Vn (L : Nat → Bool) (f : Nat → Nat → Int) (b : Bn) : Prop where
  ln : L b.n = true
  li : L b.i = true
  down : f b.n 1 = b.k.root
  rank : f b.n 4 = (rkf b.k : Int)
  item : f b.n 6 = (b.i : Int)
  node : f b.i 9 = (b.n : Int)
  kids : Vw L f (b.n : Int) b.k
theorem Vb.vn {L : Nat → Bool} {f : Nat → Nat → Int} {b : Bn} (h : Vb L f b) : Vn L f b := ⟨h.ln, h.li, h.down, h.rank, h.item, h.node, h.kids⟩
/-- the nodes of a forest's top -/
def tops : Tr → List Int
  | lf => []
  | nd n _ _ r => (n : Int) :: tops r
theorem tops_len : ∀ t : Tr, (tops t).length = t.rank
  | lf => rfl
  | nd _ _ _ r => by simp only [tops, List.length_cons, tops_len r, rank]
theorem root_cell {s : St} {up : Int} {t : Tr} (h : Vw (LS s) (hasS s) up t) : t.root = -1 ∨ ∃ c : Nat, t.root = (c : Int) ∧ LS s c = true := by
  cases t with
  | lf => exact Or.inl rfl
  | nd n i k r => exact Or.inr ⟨n, rfl, h.1.1⟩
theorem root_val {s : St} {c j : Nat} {up : Int} {t : Tr} (ok : Ok s) (hc : LS s c = true) (hj : j ≤ 9) (he : hasS s c j = t.root) (h : Vw (LS s) (hasS s) up t) : cellS s (c : Int) (j : Int) = t.root := by
  rcases root_cell h with e | ⟨d, e, hd⟩
  · rw [e]; exact cell_neg hc hj (by rw [he, e])
  · rw [e]; exact cell_nat ok hc hj (by rw [he, e]) hd

/-- there are no more children than two of a Rank -/
theorem kd_len : ∀ t : Tr, Kd t → t.rank ≤ 2 * rkf t ∧ (fstk t → t.rank + 1 ≤ 2 * rkf t)
  | lf, _ => ⟨Nat.zero_le _, fun h => h.elim⟩
  | nd n i k r, h => by
    obtain ⟨h1, h2⟩ := kd_len r h.2.2
    simp only [rank]
    rcases h.1 with e | ⟨_, e1, e2, e3⟩
    · rw [rkf_link e]
      exact ⟨by omega, fun _ => by omega⟩
    · rw [rkf_single e1 e2]
      have := h2 e3
      refine ⟨by omega, fun e => ?_⟩
      have e4 : rkf k = rkf r := e
      rw [leaf_lf e1] at e4
      have := rkf_pos e2
      simp only [rkf] at e4
      omega

section
variable {F : Nat → Prop} {w w' : World} {pa pm : Nat} {s0 s s' : St}
set_option maxHeartbeats 4000000 in
theorem childrenT (b : Bn) (hb : Vn (LS s) (hasS s) b) (hkd : Kd b.k) (hnd : (tops b.k).Nodup) (ok : Ok s) (hl : b.rk ≤ 15) (h : IsA w F pa pm s) (hs : s.steps ≤ 99990000) :
    Calls Tryz.prog 69 #[.pointer (some ⟨pa, 0, none⟩), .int .i64 (b.n : Int)] w fun e w' =>
      ∃ v, e = .returned v ∧ Own w' w.heap.size v (tops b.k) ∧ IsA w' F pa pm (tk s (2 + 2 * b.k.rank)) ∧ Kept F w w' := by
  have C1 := hid (cellT (b.n : Int) 1 (Ex.start h) (by omega))
  rw [show cellS s (b.n : Int) 1 = b.k.root from root_val (j := 1) ok hb.ln (by omega) hb.down hb.kids] at C1
  have HB := hid hb
  have HND := hid hnd
  have hbk : b.k.rank ≤ 30 := by have := (kd_len b.k hkd).1; unfold Bn.rk at hl; omega
  have OK := hid ok
  have HFL := hid h.lt
  clear hb hkd hnd ok h hl
  go_enter Tryz.func69, Tryz.ntmps69
  go_wp2_with fail
  refine C1.out.mono ?_
  rintro e w1 ⟨rfl, h1⟩
  have H1 := hid h1
  clear h1 C1
  go_wp2
  go_loopw [5, 6] (fun lv cv wr => ∃ (done : List Int) (rest : Tr), Hid (tops b.k = done ++ tops rest) ∧ cv = .int .i64 rest.root ∧ Hid (Vw (LS s) (hasS s) (b.n : Int) rest) ∧ Hid (Own wr w.heap.size lv done) ∧ Hid (IsA wr F pa pm (tk s (1 + 2 * done.length))) ∧ Hid (Kept F w wr)) (fun lv _ _ => 33 - lenV lv)
  case atStart => exact ⟨[], b.k, hid rfl, rfl, hid HB.out.kids, hid (Own.nil _ _), hid H1.out.is, hid H1.out.kept⟩
  case round =>
    clear H1
    obtain ⟨done, rest, hts, rfl, hvw, ho, hA, hK⟩ := hrel
    have hlen : done.length + rest.rank = b.k.rank := by
      have := congrArg List.length hts.out
      rw [List.length_append, tops_len, tops_len] at this
      omega
    obtain ⟨la, lc, rfl⟩ := own_form ho.out
    have hl32 : (done.length : Int) < 32 := by omega
    cases rest with
    | lf =>
      have HD : Hid (tops b.k = done) := hid (by rw [hts.out]; simp [tops])
      have hl2 : done.length = b.k.rank := by simp only [rank] at hlen; omega
      have HL2 := hid hl2
      have C0 := hid (cellT (-1) 0 (Ex.start hA.out) (by show s.steps + _ ≤ _; omega))
      rw [cell_none] at C0
      have ne : ((-1 : Int) != (b.n : Int)) = true := by simp
      rw [show lf.root = -1 from rfl]
      clear hvw hlen hl2
      go_wp2_with fail
      refine C0.out.mono ?_
      rintro e w2 ⟨rfl, h2⟩
      have H2 := hid h2
      clear h2 C0
      have O2 := hid (show Own w2 w.heap.size (.slice la done.length lc) done from own_kept ho.out H2.out.kept (fun i hi hF => by have := (World.ownsRow.lt ho.out i hi).1; have := HFL.out i hF; omega))
      have K2 := hid (hK.out.trans' H2.out.kept)
      have HST := hid (show tk (tk s (1 + 2 * done.length)) 1 = tk s (2 + 2 * b.k.rank) from by rw [← HL2.out]; unfold tk; simp; omega)
      clear ho hK
      go_wp2
      go_ret
      exact ⟨_, rfl, by rw [HD.out]; exact O2.out, by rw [← HST.out]; exact H2.out.is, K2.out⟩
    | nd c i kk rr =>
      obtain ⟨⟨q1, q2, q3, q4, q5, q6, q7, q8, q9⟩, qk, qr⟩ := hvw.out
      simp only [rank] at hlen
      rw [show (nd c i kk rr).root = (c : Int) from rfl]
      have C0 := hid (cellT (c : Int) 0 (Ex.start hA.out) (by show s.steps + _ ≤ _; omega))
      rw [show cellS (tk s (1 + 2 * done.length)) (c : Int) 0 = (b.n : Int) from cell_nat (s := s) (j := 0) OK.out q1 (by omega) q3 HB.out.ln] at C0
      have ne2 : ((b.n : Int) != (b.n : Int)) = false := by simp
      have hnc : (c : Int) ∉ done := fun hm => by
        have := HND.out
        rw [hts.out, List.nodup_append] at this
        exact this.2.2 _ hm (c : Int) (by simp [tops]) rfl
      have CO := hid (fun (wx : World) (hx : Lst wx (.slice la done.length lc) done) => containsT done (.slice la done.length lc) (c : Int) wx hx (by omega))
      rw [decide_eq_false hnc] at CO
      clear hnc
      go_wp2_with fail
      refine C0.out.mono ?_
      rintro e w2 ⟨rfl, h2⟩
      have H3 := hid h2
      have K3 := hid h2.kept
      clear h2 C0
      have O3 := hid (show Own w2 w.heap.size (.slice la done.length lc) done from own_kept ho.out K3.out (fun i hi hF => by have := (World.ownsRow.lt ho.out i hi).1; have := HFL.out i hF; omega))
      have KK3 := hid (hK.out.trans' K3.out)
      have hsz := KK3.out.size
      clear K3 ho hK
      go_wp2_with fail
      refine (CO.out _ (Own.lst O3.out)).mono ?_
      rintro e w3 ⟨rfl, rfl⟩
      clear CO
      have OA := hid (show (w3.alloc (.cells #[.int .i64 (c : Int)] 3)).ownsRow w.heap.size 3 1 (.slice la done.length lc) done.length (row int1 done) from World.ownsRow.alloc O3.out _)
      go_wp2_with (at_builtin; refine wpList_append_lst rfl (.tmp 26) (.tmp 28) rfl w.heap.size _ _ done.length (row int1 done) [(c : Int)] rfl rfl (by exact OA.out) (by exact (own_lit0 _ 0 (Nat.zero_le _) [(c : Int)] (by simp) _ rfl).lst) (by simp; omega) (by simp; omega) ?_; intro v4 w4 o4 g4; have O4 := hid o4; have G4 := hid g4; clear o4 g4)
      have hrow : ∀ i, (Value.slice la done.length lc).ownBlock = some i → w.heap.size ≤ i := fun i hi => (World.ownsRow.lt OA.out i hi).1
      have K4 := hid ((KK3.out.alloc (.cells #[.int .i64 (c : Int)] 3)).grown G4.out (fun i hi => Or.inr (hrow i hi)))
      have A4 := hid (H3.out.is.kept (((Kept.refl (fun i => w.heap.size ≤ i) w3).alloc (.cells #[.int .i64 (c : Int)] 3)).grown G4.out (fun i hi => Or.inl (hrow i hi))) (fun i hF hi => by have := HFL.out i hF; omega))
      have C5 := hid (cellT (c : Int) 3 (Ex.start A4.out) (by show s.steps + _ + 1 ≤ _; omega))
      rw [show cellS (tk (tk s (1 + 2 * done.length)) 1) (c : Int) 3 = rr.root from root_val (s := s) (j := 3) OK.out q1 (by omega) q6 qr] at C5
      clear KK3 H3 G4 OA hrow
      refine C5.out.mono ?_
      rintro e w5 ⟨rfl, h5⟩
      have H5 := hid h5
      have O5 := hid (show Own w5 w.heap.size v4 (done ++ [(c : Int)]) from by
        have : Own w4 w.heap.size v4 (done ++ [(c : Int)]) := by
          have := O4.out
          unfold Own
          rw [row_append, List.length_append]
          exact this
        exact own_kept this h5.kept (fun i hi hF => by have := (World.ownsRow.lt this i hi).1; have := HFL.out i hF; omega))
      have K5 := hid (K4.out.trans' h5.kept)
      have HST := hid (show tk (tk (tk s (1 + 2 * done.length)) 1) 1 = tk s (1 + 2 * (done ++ [(c : Int)]).length) from by unfold tk; simp; omega)
      clear h5 C5 O4 K4 A4
      go_wp2
      go_roundw
      case rel => exact ⟨done ++ [(c : Int)], rr, hid (by rw [hts.out]; simp [tops]), rfl, hid qr, O5, hid (by rw [← HST.out]; exact H5.out.is), K5⟩
      case measure =>
        obtain ⟨a5, c5, rfl⟩ := own_form O5.out
        simp only [lenV, List.length_append, List.length_cons, List.length_nil]
        omega
end
end Go.Proofs.YteibfnclillnnabGreat

/- The walks of least and of Min. -/
namespace Go.Proofs.YteibfnclillnnabGreat
open Go.ChangeShapes Go.WideShapes Go.ChangeAt Go.RowKit
open Tr

/-- b is one of l, and no other's item is before b's -/
def Lst1 (lt : Nat → Nat → Bool) (l : List Bn) (b : Bn) : Prop := b ∈ l ∧ ∀ c ∈ l, lt c.i b.i = false
/-- the first so far: none of none -/
def Lso (lt : Nat → Nat → Bool) (l : List Bn) : Option Bn → Prop
  | none => l = []
  | some b => Lst1 lt l b
def nod : Option Bn → Int
  | none => -1
  | some b => (b.n : Int)
theorem Lso.step {lt : Nat → Nat → Bool} (ht : Tot lt) {l : List Bn} {b x : Bn} (h : Lst1 lt l b) : (lt x.i b.i = true → Lso lt (l ++ [x]) (some x)) ∧ (lt x.i b.i = false → Lso lt (l ++ [x]) (some b)) := by
  have irr : ∀ a, lt a a = false := fun a => by
    cases e : lt a a
    · rfl
    · exact (ht.one a a e).symm.trans e ▸ rfl
  refine ⟨fun q => ⟨by simp, fun c hc => ?_⟩, fun q => ⟨by simp [h.1], fun c hc => ?_⟩⟩
  · rcases List.mem_append.1 hc with hc | hc
    · exact ht.le _ _ _ (ht.one _ _ q) (h.2 c hc)
    · simp at hc; subst hc; exact irr _
  · rcases List.mem_append.1 hc with hc | hc
    · exact h.2 c hc
    · simp at hc; subst hc; exact q

section
variable {F : Nat → Prop} {w w' : World} {pa pm : Nat} {s0 s s' : St}
set_option maxHeartbeats 4000000 in
theorem leastT (ts : List Bn) (v : Value) (hv : ∀ b ∈ ts, Vb (LS s) (hasS s) b) (ok : Ok s) (hl : ts.length ≤ 100) (hL : Lst w v (nds ts)) (hLf : ∀ a n c, v = .slice (some a) n c → ¬ F a.block) (h : IsA w F pa pm s) (hs : s.steps ≤ 99990000) :
    Calls Tryz.prog 29 #[.pointer (some ⟨pa, 0, none⟩), v] w fun e w' =>
      ∃ o k, e = .returned (.int .i64 (nod o)) ∧ Lso (befF (hasS s)) ts o ∧ k ≤ 6 * ts.length ∧ IsA w' F pa pm (tk s k) ∧ Kept F w w' := by
  obtain ⟨va, vc, rfl, z1, z2, z3, z4⟩ := hL
  have HV := hid hv
  have OK := hid ok
  have HLF := hid hLf
  have Z4 := hid z4
  have HA := hid h
  have hnl : (nds ts).length = ts.length := by simp [nds]
  rw [hnl] at z1 ⊢
  clear hv ok hLf z4 h z2 z3
  go_enter Tryz.func29, Tryz.ntmps29
  go_wp2
  go_loopw [5, 12] (fun bv iv wr => ∃ (j : Nat) (o : Option Bn) (k : Nat), iv = .int .i64 (j : Int) ∧ bv = .int .i64 (nod o) ∧ j ≤ ts.length ∧ Hid (Lso (befF (hasS s)) (ts.take j) o) ∧ k ≤ 6 * j ∧ Hid (IsA wr F pa pm (tk s k)) ∧ Hid (Kept F w wr)) (fun _ iv _ => ts.length - (intOf iv).toNat)
  case atStart => exact ⟨0, none, 0, rfl, rfl, Nat.zero_le _, hid rfl, by omega, hid HA.out, hid (Kept.refl _ _)⟩
  case round =>
    clear HA
    obtain ⟨j, o, k, rfl, rfl, hj, hlo, hk, hA, hK⟩ := hrel
    by_cases hlt : j < ts.length
    · have hx : ts[j]? = some ts[j] := List.getElem?_eq_getElem hlt
      generalize ts[j] = x at hx
      have hxn : (nds ts)[j]? = some (x.n : Int) := by simp [nds, hx]
      rcases Z4.out with e | ⟨b, off, rfl, hb, hc⟩
      · have : (nds ts).length = 0 := by rw [e]; rfl
        omega
      have c1 : wr.cell? ⟨b, off + j, none⟩ = some (.int .i64 (x.n : Int)) := (hK.out.cell (p := ⟨b, off + j, none⟩) hb (show ¬ F b from HLF.out _ _ _ rfl)).trans (hc _ _ hxn)
      have hlt' : (j : Int) < (ts.length : Int) := by omega
      have hvx := HV.out x (List.mem_of_getElem? hx)
      have TK := hid (show ts.take (j + 1) = ts.take j ++ [x] by rw [List.take_add_one, hx]; rfl)
      clear hx hxn hc
      cases o with
      | none =>
        have n1 : (nod none == -1) = true := rfl
        rw [show nod none = -1 from rfl]
        have e0 : ts.take j = [] := hlo.out
        have NX := hid (show Lso (befF (hasS s)) (ts.take (j + 1)) (some x) from by
          rw [TK.out, e0]
          exact ⟨by simp, fun c hc => by
            simp at hc; subst hc
            cases e : befF (hasS s) c.i c.i
            · rfl
            · exact ((befF_tot (hasS s)).one _ _ e).symm.trans e ▸ rfl⟩)
        clear e0 n1
        go_wp2
        go_roundw
        case rel => exact ⟨j + 1, some x, k, by go_num, rfl, by omega, NX, by omega, hA, hK⟩
        case measure => simp [intOf]; omega
      | some y =>
        have hvy := HV.out y (List.mem_of_mem_take hlo.out.1)
        have n1 : ((y.n : Int) == -1) = false := by simp
        rw [show nod (some y) = (y.n : Int) from rfl]
        have NB := hid (nbeforeT (x.n : Int) (y.n : Int) (Ex.start hA.out) (by show s.steps + k ≤ _; omega))
        rw [show nbS (tk s k) (x.n : Int) (y.n : Int) = befF (hasS s) x.i y.i from vb_nb (s := s) OK.out hvx hvy] at NB
        have ST := hid (Lso.step (befF_tot (hasS s)) (l := ts.take j) (x := x) hlo.out)
        cases q : befF (hasS s) x.i y.i
        · rw [q] at NB
          have NX := hid (show Lso (befF (hasS s)) (ts.take (j + 1)) (some y) from by rw [TK.out]; exact ST.out.2 q)
          clear q
          go_wp2_with fail
          refine NB.out.mono ?_
          rintro e w2 ⟨rfl, h2⟩
          have H2 := hid h2
          clear h2 NB
          go_wp2
          go_roundw
          case rel => exact ⟨j + 1, some y, k + 6, by go_num, rfl, by omega, NX, by omega, hid H2.out.is, hid (hK.out.trans' H2.out.kept)⟩
          case measure => simp [intOf]; omega
        · rw [q] at NB
          have NX := hid (show Lso (befF (hasS s)) (ts.take (j + 1)) (some x) from by rw [TK.out]; exact ST.out.1 q)
          clear q
          go_wp2_with fail
          refine NB.out.mono ?_
          rintro e w2 ⟨rfl, h2⟩
          have H2 := hid h2
          clear h2 NB
          go_wp2
          go_roundw
          case rel => exact ⟨j + 1, some x, k + 6, by go_num, rfl, by omega, NX, by omega, hid H2.out.is, hid (hK.out.trans' H2.out.kept)⟩
          case measure => simp [intOf]; omega
    · obtain rfl : j = ts.length := by omega
      have HL := hid (show Lso (befF (hasS s)) ts o from by have := hlo.out; rwa [List.take_length] at this)
      clear hlo
      go_wp2
      go_ret
      exact ⟨o, k, rfl, HL.out, hk, hA.out, hK.out⟩

set_option maxHeartbeats 1000000 in
theorem bminT (ts : List Bn) (hv : ∀ b ∈ ts, Vb (LS s) (hasS s) b) (hc : Chs (hasS s) 0 (-1) ts) (hnd : (ts.map Bn.n).Nodup) (ok : Ok s) (hl : ts.length ≤ 100) (hrk : ∀ b ∈ ts, b.rk < 100) (h : IsA w F pa pm s) (hs : s.steps ≤ 99980000) :
    Calls Tryz.prog 9 #[.pointer (some ⟨pa, 0, none⟩), .int .i64 (headr ts)] w fun e w' =>
      ∃ o k, e = .returned (.int .i64 (match o with | none => -1 | some b => (b.i : Int))) ∧ Lso (befF (hasS s)) ts o ∧ k ≤ 4 + 9 * ts.length ∧ IsA w' F pa pm (tk s k) ∧ Kept F w w' := by
  have T := hid (treesT ts hv hc hnd ok hl hrk h (by omega))
  have HV := hid hv
  have OK := hid ok
  have HFL := hid h.lt
  clear hv hc ok hrk h
  generalize headr ts = r0 at T ⊢
  go_enter Tryz.func9, Tryz.ntmps9
  go_wp2_with fail
  refine T.out.mono ?_
  rintro e w1 ⟨v, k1, rfl, o1, hk1, a1, q1⟩
  have L := hid (leastT ts v (s := tk s k1) HV.out (Sm.tk OK.out k1).ok hl o1.lst (fun a n c e hF => by
    subst e
    have := (World.ownsRow.lt o1 a.block rfl).1
    have := HFL.out _ hF
    omega) a1 (by show s.steps + k1 ≤ _; omega))
  have Q1 := hid q1
  clear o1 a1 q1 T
  go_wp2_with fail
  refine L.out.mono ?_
  rintro e w2 ⟨o, k2, rfl, lo, hk2, a2, q2⟩
  have LO := hid (show Lso (befF (hasS s)) ts o from lo)
  have A2 := hid a2
  have Q2 := hid (Q1.out.trans' q2)
  clear lo a2 q2 L Q1
  cases o with
  | none =>
    rw [show nod none = -1 from rfl]
    go_wp2
    go_ret
    exact ⟨none, k1 + k2, rfl, LO.out, by omega, by have := A2.out; rwa [tk_tk] at this, Q2.out⟩
  | some b =>
    have hb := HV.out b LO.out.1
    rw [show nod (some b) = (b.n : Int) from rfl]
    have C := hid (cellT (b.n : Int) 6 (Ex.start A2.out) (by show s.steps + k1 + k2 ≤ _; omega))
    rw [show cellS (tk (tk s k1) k2) (b.n : Int) 6 = (b.i : Int) from vb_item (s := s) OK.out hb] at C
    go_wp2_with fail
    refine C.out.mono ?_
    rintro e w3 ⟨rfl, h3⟩
    have H3 := hid h3
    clear h3 C
    go_wp2
    go_ret
    exact ⟨some b, k1 + k2 + 1, rfl, LO.out, by omega, by have := H3.out.is; rwa [tk_tk, tk_tk] at this, Q2.out.trans' H3.out.kept⟩
end
end Go.Proofs.YteibfnclillnnabGreat
