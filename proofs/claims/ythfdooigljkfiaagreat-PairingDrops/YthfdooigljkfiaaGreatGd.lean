/- Several texts in one. -/
import Derived.Test.YthfdooigljkfiaaGreatGc
import Derived.Test.YthfdooigljkfiaaGreatGb
import Derived.Deep.Onto
/- Pairing heaps as plain data: a node's children are the forest to its left, what comes behind it among its fellows is to its right; a heap has nothing to its right. Links, two passes, what is put by. -/
namespace Go.Proofs.YthfdooigljkfiaaGreat
open Go.ChangeShapes Go.WideShapes Go.ChangeAt Go.RowKit
open Tr

theorem bts_mono {a b : Nat} (h : a ≤ b) : bts a ≤ bts b := bts_le _ _ (Nat.lt_of_le_of_lt h (bts_lt b))
theorem bts_pos {n : Nat} (h : 0 < n) : 1 ≤ bts n := by rw [bts_half h]; omega
theorem bts_low : ∀ (k n : Nat), 2 ^ k ≤ n → k + 1 ≤ bts n := fun k n h => by
  have h1 := bts_lt n
  have h2 : 2 ^ k < 2 ^ bts n := Nat.lt_of_le_of_lt h h1
  exact (Nat.pow_lt_pow_iff_right (by decide)).1 h2
theorem bts_top {n : Nat} (h : 0 < n) : 2 ^ (bts n - 1) ≤ n := by
  rcases Nat.lt_or_ge n (2 ^ (bts n - 1)) with q | q
  · have := bts_le _ _ q; have := bts_pos h; omega
  · exact q
theorem bts_pair {a b : Nat} (ha : 0 < a) (hb : 0 < b) : bts a + bts b + 1 ≤ 2 * bts (a + b) := by
  have m1 := bts_mono (Nat.le_add_right a b)
  have m2 := bts_mono (Nat.le_add_left b a)
  by_cases e : bts a = bts b
  · have t1 := bts_top ha
    have t2 := bts_top hb
    rw [← e] at t2
    have p := bts_pos ha
    have : 2 ^ (bts a) ≤ a + b := by
      have : 2 ^ bts a = 2 * 2 ^ (bts a - 1) := by
        rw [show bts a = (bts a - 1) + 1 by omega, Nat.pow_succ]; simp; omega
      omega
    have := bts_low _ _ this
    omega
  · omega

/-- what is put by for calls to come: so much a node, by how many there are below it and behind it -/
def ph : Tr → Nat
  | lf => 0
  | nd _ _ l r => bts (l.size + r.size + 1) + ph l + ph r
/-- the same of a heap, but for its root -/
def phk : Tr → Nat
  | lf => 0
  | nd _ _ l _ => ph l
/-- two heaps are one -/
def lnk (lt : Nat → Nat → Bool) : Tr → Tr → Tr
  | lf, b => b
  | nd n i k r, lf => nd n i k r
  | nd n i k _, nd m j l _ => if lt j i = true then nd m j (nd n i k l) lf else nd n i (nd m j l k) lf
theorem lnk_nd (lt : Nat → Nat → Bool) (n i m j : Nat) (k r l q : Tr) : lnk lt (nd n i k r) (nd m j l q) = if lt j i = true then nd m j (nd n i k l) lf else nd n i (nd m j l k) lf := rfl
/-- is it a heap, of one node and more? -/
def Top : Tr → Prop
  | lf => False
  | nd _ _ _ r => r = lf
/-- the children, each a heap of its own -/
def kidsL : Tr → List Tr
  | lf => []
  | nd n i k r => nd n i k lf :: kidsL r
def tot : List Tr → Nat
  | [] => 0
  | a :: l => a.size + tot l
/-- what is put by for a row of heaps, one beside the other -/
def sp : List Tr → Nat
  | [] => 0
  | a :: l => bts (a.size + tot l) + phk a + sp l
/-- two by two -/
def prs (lt : Nat → Nat → Bool) : List Tr → List Tr
  | a :: b :: l => lnk lt a b :: prs lt l
  | l => l
/-- from the last one back -/
def mg (lt : Nat → Nat → Bool) : List Tr → Tr
  | [] => lf
  | a :: l => lnk lt (mg lt l) a
/-- the heap without its root -/
def rmv (lt : Nat → Nat → Bool) (k : Tr) : Tr := mg lt (prs lt (kidsL k))

section
variable {lt : Nat → Nat → Bool}
theorem ph_top {a : Tr} (h : Top a) : ph a = bts a.size + phk a := by
  cases a with
  | lf => exact absurd h id
  | nd n i k r => cases h; simp [ph, phk, size]
theorem top_pos {a : Tr} (h : Top a) : 0 < a.size := by
  cases a with
  | lf => exact absurd h id
  | nd n i k r => simp [size]
theorem lnk_top {a b : Tr} (ha : Top a) (hb : Top b) : Top (lnk lt a b) ∧ (lnk lt a b).size = a.size + b.size ∧ phk (lnk lt a b) = bts (a.size + b.size - 1) + phk a + phk b := by
  cases a with
  | lf => exact absurd ha id
  | nd n i k r =>
    cases b with
    | lf => exact absurd hb id
    | nd m j l q =>
      cases ha; cases hb
      rw [lnk_nd]
      split
      · refine ⟨rfl, by simp [size]; omega, ?_⟩
        simp only [phk, ph, size]
        rw [show k.size + 0 + 1 + (l.size + 0 + 1) - 1 = k.size + l.size + 1 by omega]
      · refine ⟨rfl, by simp [size]; omega, ?_⟩
        simp only [phk, ph, size]
        rw [show k.size + 0 + 1 + (l.size + 0 + 1) - 1 = l.size + k.size + 1 by omega]
        omega
theorem kids_top : ∀ {k : Tr}, ∀ a ∈ kidsL k, Top a
  | lf, a, h => by cases h
  | nd n i k r, a, h => by
    rcases List.mem_cons.1 h with rfl | h
    · rfl
    · exact kids_top a h
theorem kids_tot : ∀ k : Tr, tot (kidsL k) = k.size
  | lf => rfl
  | nd n i k r => by simp only [kidsL, tot, size, kids_tot r]; omega
theorem kids_sp : ∀ k : Tr, sp (kidsL k) = ph k
  | lf => rfl
  | nd n i k r => by
    simp only [kidsL, sp, ph, phk, size, kids_sp r, kids_tot r]
    rw [show k.size + 0 + 1 + r.size = k.size + r.size + 1 by omega]
theorem prs_top : ∀ {l : List Tr}, (∀ a ∈ l, Top a) → ∀ a ∈ prs lt l, Top a
  | [], _, a, h => by cases h
  | [x], hl, a, h => hl a h
  | x :: y :: l, hl, a, h => by
    rcases List.mem_cons.1 h with rfl | h
    · exact (lnk_top (hl x (by simp)) (hl y (by simp))).1
    · exact prs_top (fun a ha => hl a (by simp [ha])) a h
theorem prs_tot : ∀ {l : List Tr}, (∀ a ∈ l, Top a) → tot (prs lt l) = tot l
  | [], _ => rfl
  | [x], _ => rfl
  | x :: y :: l, hl => by
    simp only [prs, tot]
    rw [prs_tot fun a ha => hl a (by simp [ha]), (lnk_top (hl x (by simp)) (hl y (by simp))).2.1]
    omega
theorem prs_len : ∀ l : List Tr, (prs lt l).length = l.length - l.length / 2
  | [] => by simp [prs]
  | [x] => by simp [prs]
  | x :: y :: l => by
    simp only [prs, List.length_cons, prs_len l]; omega
theorem prs_sp : ∀ {l : List Tr}, (∀ a ∈ l, Top a) → sp (prs lt l) + l.length / 2 ≤ sp l + 2 * bts (tot l)
  | [], _ => Nat.zero_le _
  | [x], _ => by simp [prs]
  | x :: y :: l, hl => by
    have ih := prs_sp (l := l) fun a ha => hl a (by simp [ha])
    have lk := lnk_top (lt := lt) (hl x (by simp)) (hl y (by simp))
    have hx := top_pos (hl x (by simp))
    have hy := top_pos (hl y (by simp))
    simp only [prs, sp, tot, List.length_cons]
    rw [prs_tot fun a ha => hl a (by simp [ha]), lk.2.1, lk.2.2, show x.size + y.size + tot l = x.size + (y.size + tot l) by omega]
    have m1 := bts_mono (show x.size + y.size - 1 ≤ x.size + y.size by omega)
    have m2 := bts_mono (show tot l ≤ y.size + tot l by omega)
    rcases Nat.eq_zero_or_pos (tot l) with e | e
    · have m3 := bts_mono (show x.size + y.size ≤ x.size + (y.size + tot l) by omega)
      rw [e] at ih
      rw [bts_zero] at ih
      have p := bts_pos (show 0 < x.size + (y.size + tot l) by omega)
      have p2 := bts_pos (show 0 < y.size + tot l by omega)
      omega
    · have := bts_pair (show 0 < x.size + y.size by omega) e
      rw [show x.size + y.size + tot l = x.size + (y.size + tot l) by omega] at this
      omega
theorem mg_top : ∀ {l : List Tr}, (∀ a ∈ l, Top a) → (l = [] → mg lt l = lf) ∧ (l ≠ [] → Top (mg lt l)) ∧ (mg lt l).size = tot l ∧ phk (mg lt l) ≤ sp l
  | [], _ => ⟨fun _ => rfl, fun h => absurd rfl h, rfl, Nat.zero_le _⟩
  | [x], hl => by
    have hx := hl x (by simp)
    cases x with
    | lf => exact absurd hx id
    | nd n i k r => exact ⟨fun h => (by cases h), fun _ => hx, by simp [mg, lnk, tot], by simp [mg, lnk, sp, phk]⟩
  | x :: y :: l, hl => by
    have ih := mg_top (l := y :: l) fun a ha => hl a (by simp only [List.mem_cons] at ha ⊢; exact Or.inr ha)
    have hx := hl x (by simp)
    have lk := lnk_top (lt := lt) (ih.2.1 (by simp)) hx
    refine ⟨fun h => (by cases h), fun _ => lk.1, ?_, ?_⟩
    · show (lnk lt (mg lt (y :: l)) x).size = x.size + tot (y :: l)
      rw [lk.2.1, ih.2.2.1]; omega
    · show phk (lnk lt (mg lt (y :: l)) x) ≤ bts (x.size + tot (y :: l)) + phk x + sp (y :: l)
      rw [lk.2.2, ih.2.2.1]
      have := bts_mono (show tot (y :: l) + x.size - 1 ≤ x.size + tot (y :: l) by omega)
      have := ih.2.2.2
      omega
theorem mg_ph {l : List Tr} (hl : ∀ a ∈ l, Top a) : ph (mg lt l) ≤ sp l + bts (tot l) := by
  have h := mg_top (lt := lt) hl
  cases l with
  | nil => simp [mg, ph]
  | cons a l =>
    rw [ph_top (h.2.1 (by simp)), h.2.2.1]
    have := h.2.2.2
    omega
/-- the heap without its root: so much less is put by as there are pairs -/
theorem rmv_ph (k : Tr) : ph (rmv lt k) + (kidsL k).length / 2 ≤ ph k + 3 * bts k.size := by
  have h1 := prs_sp (lt := lt) (l := kidsL k) (fun a => kids_top a)
  have h2 := mg_ph (lt := lt) (l := prs lt (kidsL k)) (prs_top fun a => kids_top a)
  rw [prs_tot fun a => kids_top a] at h2
  rw [kids_tot] at h1 h2
  rw [kids_sp] at h1
  unfold rmv
  omega
theorem rmv_size (k : Tr) : (rmv lt k).size = k.size := by
  have h2 := mg_top (lt := lt) (l := prs lt (kidsL k)) (prs_top fun a => kids_top a)
  unfold rmv
  rw [h2.2.2.1, prs_tot fun a => kids_top a, kids_tot]
end
end Go.Proofs.YthfdooigljkfiaaGreat

/- How pairing heaps lie in cells; what a link does to them. -/
namespace Go.Proofs.YthfdooigljkfiaaGreat
open Go.ChangeShapes Go.WideShapes Go.ChangeAt Go.RowKit
open Tr

/-- a forest of children of up, the first one's Left is q -/
def Vp (L : Nat → Bool) (f : Nat → Nat → Int) : Int → Int → Tr → Prop
  | _, _, lf => True
  | up, q, nd n i k r => (L n = true ∧ L i = true ∧ f n 0 = up ∧ f n 1 = k.root ∧ f n 2 = q ∧ f n 3 = r.root ∧ f n 6 = (i : Int) ∧ f i 9 = (n : Int)) ∧ Vp L f (n : Int) (-1) k ∧ Vp L f up (n : Int) r
/-- no item of a forest is before the one above it -/
def Hu (lt : Nat → Nat → Bool) : Nat → Tr → Prop
  | _, lf => True
  | u, nd _ i k r => lt i u = false ∧ Hu lt i k ∧ Hu lt u r
/-- the same of a heap -/
def Ho (lt : Nat → Nat → Bool) : Tr → Prop
  | lf => True
  | nd _ i k _ => Hu lt i k

section
variable {L L' : Nat → Bool} {f f' : Nat → Nat → Int}
theorem Vp.live : ∀ {up q : Int} {t : Tr}, Vp L f up q t → ∀ c ∈ t.cells, L c = true
  | _, _, lf, _, c, hc => by simp [cells] at hc
  | up, q, nd n i k r, h, c, hc => by
    simp only [cells, List.mem_cons, List.mem_append] at hc
    rcases hc with rfl | rfl | hc | hc
    · exact h.1.1
    · exact h.1.2.1
    · exact Vp.live h.2.1 c hc
    · exact Vp.live h.2.2 c hc
theorem Vp.like : ∀ {up q : Int} {t : Tr}, Vp L f up q t → (∀ c ∈ t.cells, L' c = L c ∧ ∀ j, f' c j = f c j) → Vp L' f' up q t
  | _, _, lf, _, _ => trivial
  | up, q, nd n i k r, ⟨⟨h1, h2, h3, h4, h5, h6, h7, h8⟩, hk, hr⟩, hf => by
    have hn := hf n (by simp [cells])
    have hi := hf i (by simp [cells])
    exact ⟨⟨by rw [hn.1]; exact h1, by rw [hi.1]; exact h2, by rw [hn.2]; exact h3, by rw [hn.2]; exact h4, by rw [hn.2]; exact h5, by rw [hn.2]; exact h6, by rw [hn.2]; exact h7, by rw [hi.2]; exact h8⟩,
      Vp.like hk fun c hc => hf c (by simp [cells, hc]), Vp.like hr fun c hc => hf c (by simp [cells, hc])⟩
theorem Vp.uproot {up q : Int} {t : Tr} {c : Nat} (h : Vp L f up q t) (hc : t.root = (c : Int)) : f c 0 = up ∧ f c 2 = q ∧ c ∈ t.cells := by
  cases t with
  | lf => simp [root] at hc
  | nd n i k r =>
    simp only [root] at hc
    have : n = c := by omega
    subst this
    exact ⟨h.1.2.2.1, h.1.2.2.2.2.1, by simp [cells]⟩
/-- the first one's Left turned -/
theorem Vp.reLeft {up q q' : Int} {t : Tr} (h : Vp L f up q t) (hn : t.cells.Nodup) (hL : ∀ c ∈ t.cells, L' c = L c) (hf : ∀ c ∈ t.cells, ∀ j, ¬ (j = 2 ∧ t.root = (c : Int)) → f' c j = f c j) (hq : ∀ c : Nat, t.root = (c : Int) → f' c 2 = q') : Vp L' f' up q' t := by
  cases t with
  | lf => trivial
  | nd n i k r =>
    obtain ⟨⟨h1, h2, h3, h4, h5, h6, h7, h8⟩, hk, hr⟩ := h
    simp only [cells, List.nodup_cons, List.mem_cons, List.mem_append, not_or] at hn
    obtain ⟨⟨n1, n2, n3⟩, _⟩ := hn
    have hne : ∀ c, c ≠ n → (nd n i k r).root ≠ (c : Int) := fun c hc e => hc (by simp only [root] at e; omega)
    have gn : ∀ j, j ≠ 2 → f' n j = f n j := fun j hj => hf n (by simp [cells]) j (fun e => hj e.1)
    have gi : ∀ j, f' i j = f i j := fun j => hf i (by simp [cells]) j (fun e => hne i (fun z => n1 z.symm) e.2)
    refine ⟨⟨by rw [hL n (by simp [cells])]; exact h1, by rw [hL i (by simp [cells])]; exact h2, by rw [gn 0 (by decide)]; exact h3, by rw [gn 1 (by decide)]; exact h4, hq n rfl, by rw [gn 3 (by decide)]; exact h6, by rw [gn 6 (by decide)]; exact h7, by rw [gi]; exact h8⟩,
      Vp.like hk fun c hc => ⟨hL c (by simp [cells, hc]), fun j => hf c (by simp [cells, hc]) j (fun e => hne c (fun z => n2 (z ▸ hc)) e.2)⟩,
      Vp.like hr fun c hc => ⟨hL c (by simp [cells, hc]), fun j => hf c (by simp [cells, hc]) j (fun e => hne c (fun z => n3 (z ▸ hc)) e.2)⟩⟩

/-- what a link of n, with the child next, and m does: m is n's first child -/
def lnF (f : Nat → Nat → Int) (n m : Nat) (next : Int) : Nat → Nat → Int := fun c j =>
  if c = n ∧ j = 1 then (m : Int) else if c = m ∧ j = 0 then (n : Int) else if c = m ∧ j = 3 then next else if next = (c : Int) ∧ j = 2 then (m : Int) else f c j
theorem lnF_key (n m : Nat) (next : Int) (c j : Nat) (hj : 4 ≤ j) : lnF f n m next c j = f c j := by
  unfold lnF
  rw [if_neg (by omega), if_neg (by omega), if_neg (by omega), if_neg (by omega)]
theorem lnF_out {n m : Nat} {next : Int} {c : Nat} (j : Nat) (h1 : c ≠ n) (h2 : c ≠ m) (h3 : next ≠ (c : Int)) : lnF f n m next c j = f c j := by
  unfold lnF
  rw [if_neg fun h => h1 h.1, if_neg fun h => h2 h.1, if_neg fun h => h2 h.1, if_neg fun h => h3 h.1]
theorem link_view {n i m j : Nat} {k l : Tr} (ha : Vp L f (-1) (-1) (nd n i k lf)) (hb : Vp L f (-1) (-1) (nd m j l lf)) (hd : ((nd n i k lf).cells ++ (nd m j l lf).cells).Nodup) :
    Vp L (lnF f n m k.root) (-1) (-1) (nd n i (nd m j l k) lf) := by
  obtain ⟨⟨a1, a2, a3, a4, a5, a6, a7, a8⟩, hk, _⟩ := ha
  obtain ⟨⟨b1, b2, b3, b4, b5, b6, b7, b8⟩, hl, _⟩ := hb
  simp only [cells, List.append_nil, List.nodup_append, List.nodup_cons, List.mem_cons, not_or] at hd
  obtain ⟨⟨⟨n1, n2⟩, n3, n4⟩, ⟨⟨m1, m2⟩, m3, m4⟩, hd⟩ := hd
  have dnm : n ≠ m := fun e => hd n (by simp) m (by simp) e
  have dnj : n ≠ j := fun e => hd n (by simp) j (by simp) e
  have dim : i ≠ m := fun e => hd i (by simp) m (by simp) e
  have dij : i ≠ j := fun e => hd i (by simp) j (by simp) e
  have dnl : n ∉ l.cells := fun e => hd n (by simp) n (by simp [e]) rfl
  have dil : i ∉ l.cells := fun e => hd i (by simp) i (by simp [e]) rfl
  have dmk : m ∉ k.cells := fun e => hd m (by simp [e]) m (by simp) rfl
  have djk : j ∉ k.cells := fun e => hd j (by simp [e]) j (by simp) rfl
  have dkl : ∀ c ∈ k.cells, c ∉ l.cells := fun c e1 e2 => hd c (by simp [e1]) c (by simp [e2]) rfl
  have kr : ∀ c : Nat, k.root = (c : Int) → c ∈ k.cells := fun c e => root_mem e
  have rn : k.root ≠ (n : Int) := fun e => n2 (kr n e)
  have ri : k.root ≠ (i : Int) := fun e => n3 (kr i e)
  have rm : k.root ≠ (m : Int) := fun e => dmk (kr m e)
  have rj : k.root ≠ (j : Int) := fun e => djk (kr j e)
  have gn : ∀ z, z ≠ 1 → lnF f n m k.root n z = f n z := fun z hz => by
    unfold lnF
    rw [if_neg (by omega), if_neg (by omega), if_neg (by omega), if_neg (fun h => rn h.1)]
  have gm : ∀ z, z ≠ 0 → z ≠ 3 → lnF f n m k.root m z = f m z := fun z hz hz' => by
    unfold lnF
    rw [if_neg (by omega), if_neg (by omega), if_neg (by omega), if_neg (fun h => rm h.1)]
  have gi : ∀ z, lnF f n m k.root i z = f i z := fun z => lnF_out z (fun e => n1 e.symm) dim ri
  have gj : ∀ z, lnF f n m k.root j z = f j z := fun z => lnF_out z (fun e => dnj e.symm) (fun e => m1 e.symm) rj
  refine ⟨⟨a1, a2, by rw [gn 0 (by decide)]; exact a3, ?_, by rw [gn 2 (by decide)]; exact a5, by rw [gn 3 (by decide)]; exact a6, by rw [gn 6 (by decide)]; exact a7, by rw [gi]; exact a8⟩,
    ⟨⟨b1, b2, ?_, by rw [gm 1 (by decide) (by decide)]; exact b4, by rw [gm 2 (by decide) (by decide)]; exact b5, ?_, by rw [gm 6 (by decide) (by decide)]; exact b7, by rw [gj]; exact b8⟩, ?_, ?_⟩, trivial⟩
  · unfold lnF; rw [if_pos ⟨rfl, rfl⟩]; rfl
  · unfold lnF; rw [if_neg (by omega), if_pos ⟨rfl, rfl⟩]
  · unfold lnF; rw [if_neg (by omega), if_neg (by omega), if_pos ⟨rfl, rfl⟩]
  · exact hl.like fun c hc => ⟨rfl, fun z => lnF_out z (fun e => dnl (e ▸ hc)) (fun e => m2 (e ▸ hc)) (fun e => dkl c (kr c e) hc)⟩
  · refine hk.reLeft n4 (fun _ _ => rfl) (fun c hc z hz => ?_) (fun c hc => ?_)
    · unfold lnF
      rw [if_neg (show ¬ (c = n ∧ z = 1) from fun h => n2 (h.1 ▸ hc)), if_neg (show ¬ (c = m ∧ z = 0) from fun h => dmk (h.1 ▸ hc)), if_neg (show ¬ (c = m ∧ z = 3) from fun h => dmk (h.1 ▸ hc)), if_neg (show ¬ (k.root = (c : Int) ∧ z = 2) from fun h => hz ⟨h.2, h.1⟩)]
    · unfold lnF
      rw [if_neg (by omega), if_neg (by omega), if_neg (by omega), if_pos ⟨hc, rfl⟩]
end

section
variable {lt : Nat → Nat → Bool}
theorem lnk_cells {a b : Tr} (ha : Top a) (hb : Top b) : (lnk lt a b).cells.Perm (a.cells ++ b.cells) ∧ (lnk lt a b).items.Perm (a.items ++ b.items) ∧ (lnk lt a b).nodes.Perm (a.nodes ++ b.nodes) := by
  cases a with
  | lf => exact absurd ha id
  | nd n i k r =>
    cases b with
    | lf => exact absurd hb id
    | nd m j l q =>
      cases ha; cases hb
      rw [lnk_nd]
      split
      · simp only [cells, items, nodes, List.append_nil, List.cons_append]
        refine ⟨?_, ?_, ?_⟩
        · exact (List.perm_append_comm (l₁ := m :: j :: []) (l₂ := n :: i :: (k.cells ++ l.cells))).trans (by
            simp only [List.cons_append]
            refine .cons _ (.cons _ ?_)
            rw [List.append_assoc]
            exact List.Perm.append_left _ List.perm_append_comm)
        · exact (List.perm_append_comm (l₁ := j :: []) (l₂ := i :: (k.items ++ l.items))).trans (by
            simp only [List.cons_append]
            refine .cons _ ?_
            rw [List.append_assoc]
            exact List.Perm.append_left _ List.perm_append_comm)
        · exact (List.perm_append_comm (l₁ := m :: []) (l₂ := n :: (k.nodes ++ l.nodes))).trans (by
            simp only [List.cons_append]
            refine .cons _ ?_
            rw [List.append_assoc]
            exact List.Perm.append_left _ List.perm_append_comm)
      · simp only [cells, items, nodes, List.append_nil, List.cons_append]
        refine ⟨.cons _ (.cons _ ?_), .cons _ ?_, .cons _ ?_⟩
        · exact (List.perm_append_comm (l₁ := m :: j :: l.cells) (l₂ := k.cells))
        · exact (List.perm_append_comm (l₁ := j :: l.items) (l₂ := k.items))
        · exact (List.perm_append_comm (l₁ := m :: l.nodes) (l₂ := k.nodes))
theorem Hu.low {u v : Nat} (ht : Tot lt) (h : lt u v = false) : ∀ {t : Tr}, Hu lt u t → Hu lt v t
  | lf, _ => trivial
  | nd _ _ _ _, ⟨h1, h2, h3⟩ => ⟨ht.le _ _ _ h h1, h2, Hu.low ht h h3⟩
theorem Hu.all {u : Nat} (ht : Tot lt) : ∀ {k : Tr}, Hu lt u k → ∀ j ∈ k.items, lt j u = false
  | lf, _, j, hj => by simp [items] at hj
  | nd n i k r, h, j, hj => by
    simp only [items, List.mem_cons, List.mem_append] at hj
    rcases hj with rfl | hj | hj
    · exact h.1
    · exact ht.le _ _ _ h.1 (Hu.all ht h.2.1 j hj)
    · exact Hu.all ht h.2.2 j hj
theorem lnk_ho (ht : Tot lt) {a b : Tr} (ha : Ho lt a) (hb : Ho lt b) : Ho lt (lnk lt a b) := by
  cases a with
  | lf => exact hb
  | nd n i k r =>
    cases b with
    | lf => exact ha
    | nd m j l q =>
      rw [lnk_nd]
      split
      · rename_i h
        exact ⟨ht.one _ _ h, ha, hb⟩
      · rename_i h
        exact ⟨by simpa using h, hb, ha⟩
end
end Go.Proofs.YthfdooigljkfiaaGreat

/- A node that leaves its place. -/
namespace Go.Proofs.YthfdooigljkfiaaGreat
open Go.ChangeShapes Go.WideShapes Go.ChangeAt Go.RowKit
open Tr

/-- a forest without the node x and what is below it -/
def del (x : Nat) : Tr → Tr
  | lf => lf
  | nd n i k r => if n = x then r else nd n i (del x k) (del x r)
/-- the node x and what is below it -/
def sub (x : Nat) : Tr → Tr
  | lf => lf
  | nd n i k r => if n = x then nd n i k lf else if x ∈ k.nodes then sub x k else sub x r
/-- what leave does -/
def lvF (f : Nat → Nat → Int) (x : Nat) : Nat → Nat → Int := fun c j =>
  if c = x ∧ (j = 0 ∨ j = 2 ∨ j = 3) then -1
  else if j = 2 ∧ f x 3 = (c : Int) then f x 2
  else if j = 1 ∧ f x 2 = -1 ∧ f x 0 = (c : Int) then f x 3
  else if j = 3 ∧ f x 2 ≠ -1 ∧ f x 2 = (c : Int) then f x 3
  else f c j

theorem node_cell : ∀ {t : Tr} {c : Nat}, c ∈ t.nodes → c ∈ t.cells
  | lf, c, h => by simp [nodes] at h
  | nd n i k r, c, h => by
    simp only [nodes, List.mem_cons, List.mem_append] at h
    simp only [cells, List.mem_cons, List.mem_append]
    rcases h with h | h | h
    · exact Or.inl h
    · exact Or.inr (Or.inr (Or.inl (node_cell h)))
    · exact Or.inr (Or.inr (Or.inr (node_cell h)))
theorem root_node {t : Tr} {c : Nat} (h : t.root = (c : Int)) : c ∈ t.nodes := by
  cases t with
  | lf => simp [root] at h
  | nd n i l r => simp only [root] at h; have : n = c := by omega
                  subst this; simp [nodes]
theorem del_no {x : Nat} : ∀ {t : Tr}, x ∉ t.nodes → del x t = t
  | lf, _ => rfl
  | nd n i k r, h => by
    simp only [nodes, List.mem_cons, List.mem_append, not_or] at h
    simp only [del]
    rw [if_neg (fun e => h.1 e.symm), del_no h.2.1, del_no h.2.2]
/-- the three places where x may be -/
theorem nd_cases {x n i : Nat} {k r : Tr} (hn : (nd n i k r).cells.Nodup) (hx : x ∈ (nd n i k r).nodes) :
    n = x ∨ (n ≠ x ∧ x ∈ k.nodes ∧ x ∉ r.nodes) ∨ (n ≠ x ∧ x ∉ k.nodes ∧ x ∈ r.nodes) := by
  simp only [cells, List.nodup_cons, List.mem_cons, List.mem_append, List.nodup_append, not_or] at hn
  obtain ⟨⟨n1, n2, n3⟩, ⟨n4, n5⟩, n6, n7, n8⟩ := hn
  simp only [nodes, List.mem_cons, List.mem_append] at hx
  rcases hx with h | h | h
  · exact Or.inl h.symm
  · exact Or.inr (Or.inl ⟨fun e => n2 (e ▸ node_cell h), h, fun z => n8 x (node_cell h) x (node_cell z) rfl⟩)
  · exact Or.inr (Or.inr ⟨fun e => n3 (e ▸ node_cell h), fun z => n8 x (node_cell z) x (node_cell h) rfl, h⟩)
theorem nd_nodup {n i : Nat} {k r : Tr} (hn : (nd n i k r).cells.Nodup) : k.cells.Nodup ∧ r.cells.Nodup := by
  simp only [cells, List.nodup_cons, List.nodup_append] at hn
  exact ⟨hn.2.2.1, hn.2.2.2.1⟩
theorem sub_top {x : Nat} : ∀ {t : Tr}, t.cells.Nodup → x ∈ t.nodes → ∃ i k, sub x t = nd x i k lf
  | lf, _, h => by simp [nodes] at h
  | nd n i k r, hn, h => by
    rcases nd_cases hn h with e | ⟨e, h1, h2⟩ | ⟨e, h1, h2⟩
    · subst e; exact ⟨i, k, by simp [sub]⟩
    · simp only [sub]; rw [if_neg e, if_pos h1]; exact sub_top (nd_nodup hn).1 h1
    · simp only [sub]; rw [if_neg e, if_neg h1]; exact sub_top (nd_nodup hn).2 h2
theorem perm_mid {α : Type} {a b c d : List α} (h : a.Perm (b ++ c)) : (a ++ d).Perm ((b ++ d) ++ c) := by
  refine (h.append_right d).trans ?_
  rw [List.append_assoc, List.append_assoc]
  exact List.Perm.append_left _ List.perm_append_comm
theorem perm_end {α : Type} {a b c d : List α} (h : a.Perm (b ++ c)) : (d ++ a).Perm ((d ++ b) ++ c) := by
  rw [List.append_assoc]; exact h.append_left d
theorem del_perm {x : Nat} : ∀ {t : Tr}, t.cells.Nodup → x ∈ t.nodes → t.cells.Perm ((del x t).cells ++ (sub x t).cells) ∧ t.items.Perm ((del x t).items ++ (sub x t).items) ∧ t.nodes.Perm ((del x t).nodes ++ (sub x t).nodes)
  | lf, _, h => by simp [nodes] at h
  | nd n i k r, hn, h => by
    rcases nd_cases hn h with e | ⟨e, h1, h2⟩ | ⟨e, h1, h2⟩
    · subst e
      simp only [sub, del, if_pos, cells, items, nodes, List.append_nil]
      refine ⟨?_, ?_, ?_⟩
      · exact (List.perm_append_comm (l₁ := n :: i :: k.cells) (l₂ := r.cells))
      · exact (List.perm_append_comm (l₁ := i :: k.items) (l₂ := r.items))
      · exact (List.perm_append_comm (l₁ := n :: k.nodes) (l₂ := r.nodes))
    · obtain ⟨p1, p2, p3⟩ := del_perm (nd_nodup hn).1 h1
      simp only [sub, del]
      rw [if_neg e, if_neg e, if_pos h1, del_no h2]
      simp only [cells, items, nodes, List.cons_append]
      exact ⟨.cons _ (.cons _ (perm_mid p1)), .cons _ (perm_mid p2), .cons _ (perm_mid p3)⟩
    · obtain ⟨p1, p2, p3⟩ := del_perm (nd_nodup hn).2 h2
      simp only [sub, del]
      rw [if_neg e, if_neg e, if_neg h1, del_no h1]
      simp only [cells, items, nodes, List.cons_append]
      exact ⟨.cons _ (.cons _ (perm_end p1)), .cons _ (perm_end p2), .cons _ (perm_end p3)⟩
theorem del_ph {x : Nat} : ∀ {t : Tr}, t.cells.Nodup → x ∈ t.nodes → ph (del x t) + phk (sub x t) ≤ ph t ∧ (del x t).size + (sub x t).size = t.size
  | lf, _, h => by simp [nodes] at h
  | nd n i k r, hn, h => by
    rcases nd_cases hn h with e | ⟨e, h1, h2⟩ | ⟨e, h1, h2⟩
    · subst e
      simp only [sub, del, if_pos, ph, phk, size]
      omega
    · obtain ⟨p1, p2⟩ := del_ph (nd_nodup hn).1 h1
      simp only [sub, del]
      rw [if_neg e, if_neg e, if_pos h1, del_no h2]
      simp only [ph, size]
      have := bts_mono (show (del x k).size + r.size + 1 ≤ k.size + r.size + 1 by omega)
      omega
    · obtain ⟨p1, p2⟩ := del_ph (nd_nodup hn).2 h2
      simp only [sub, del]
      rw [if_neg e, if_neg e, if_neg h1, del_no h1]
      simp only [ph, size]
      have := bts_mono (show k.size + (del x r).size + 1 ≤ k.size + r.size + 1 by omega)
      omega
theorem del_hu {lt : Nat → Nat → Bool} {x : Nat} : ∀ {t : Tr} {u : Nat}, t.cells.Nodup → x ∈ t.nodes → Hu lt u t → Hu lt u (del x t) ∧ Ho lt (sub x t)
  | lf, _, _, h, _ => by simp [nodes] at h
  | nd n i k r, u, hn, h, ⟨o1, o2, o3⟩ => by
    rcases nd_cases hn h with e | ⟨e, h1, h2⟩ | ⟨e, h1, h2⟩
    · subst e
      simp only [sub, del, if_pos]
      exact ⟨o3, o2⟩
    · obtain ⟨p1, p2⟩ := del_hu (nd_nodup hn).1 h1 o2
      simp only [sub, del]
      rw [if_neg e, if_neg e, if_pos h1, del_no h2]
      exact ⟨⟨o1, p1, o3⟩, p2⟩
    · obtain ⟨p1, p2⟩ := del_hu (nd_nodup hn).2 h2 o3
      simp only [sub, del]
      rw [if_neg e, if_neg e, if_neg h1, del_no h1]
      exact ⟨⟨o1, o2, p1⟩, p2⟩

section
variable {L : Nat → Bool} {f : Nat → Nat → Int} {x : Nat}
theorem lvF_key (f : Nat → Nat → Int) (x c j : Nat) (hj : 4 ≤ j) : lvF f x c j = f c j := by
  unfold lvF
  rw [if_neg (by omega), if_neg (by omega), if_neg (by omega), if_neg (by omega)]
theorem lvF_out {c : Nat} (j : Nat) (h1 : c ≠ x) (h2 : f x 3 ≠ (c : Int)) (h3 : f x 2 = -1 → f x 0 ≠ (c : Int)) (h4 : f x 2 ≠ (c : Int)) : lvF f x c j = f c j := by
  unfold lvF
  rw [if_neg (fun h => h1 h.1), if_neg (fun h => h2 h.2), if_neg (fun h => h3 h.2.1 h.2.2), if_neg (fun h => h4 h.2.2)]
theorem Vp.right : ∀ {up q : Int} {t : Tr}, Vp L f up q t → x ∈ t.nodes → ∀ c : Nat, f x 3 = (c : Int) → c ∈ t.nodes
  | _, _, lf, _, h, _, _ => by simp [nodes] at h
  | up, q, nd n i k r, ⟨⟨h1, h2, h3, h4, h5, h6, h7, h8⟩, hk, hr⟩, h, c, hc => by
    simp only [nodes, List.mem_cons, List.mem_append] at h ⊢
    rcases h with e | h | h
    · subst e
      rw [h6] at hc
      exact Or.inr (Or.inr (root_node hc))
    · exact Or.inr (Or.inl (Vp.right hk h c hc))
    · exact Or.inr (Or.inr (Vp.right hr h c hc))
theorem Vp.left : ∀ {up q : Int} {t : Tr}, Vp L f up q t → x ∈ t.nodes → ∀ c : Nat, f x 2 = (c : Int) → c ∈ t.nodes ∨ (t.root = (x : Int) ∧ q = (c : Int))
  | _, _, lf, _, h, _, _ => by simp [nodes] at h
  | up, q, nd n i k r, ⟨⟨h1, h2, h3, h4, h5, h6, h7, h8⟩, hk, hr⟩, h, c, hc => by
    simp only [nodes, List.mem_cons, List.mem_append] at h ⊢
    rcases h with e | h | h
    · subst e
      rw [h5] at hc
      exact Or.inr ⟨rfl, hc⟩
    · rcases Vp.left hk h c hc with q | ⟨_, q⟩
      · exact Or.inl (Or.inr (Or.inl q))
      · omega
    · rcases Vp.left hr h c hc with q | ⟨_, q⟩
      · exact Or.inl (Or.inr (Or.inr q))
      · exact Or.inl (Or.inl (by omega))
theorem Vp.upc : ∀ {up q : Int} {t : Tr}, Vp L f up q t → x ∈ t.nodes → f x 2 = -1 → ∀ c : Nat, f x 0 = (c : Int) → c ∈ t.nodes ∨ (t.root = (x : Int) ∧ up = (c : Int))
  | _, _, lf, _, h, _, _, _ => by simp [nodes] at h
  | up, q, nd n i k r, ⟨⟨h1, h2, h3, h4, h5, h6, h7, h8⟩, hk, hr⟩, h, hz, c, hc => by
    simp only [nodes, List.mem_cons, List.mem_append] at h ⊢
    rcases h with e | h | h
    · subst e
      rw [h3] at hc
      exact Or.inr ⟨rfl, hc⟩
    · rcases Vp.upc hk h hz c hc with q | ⟨_, q⟩
      · exact Or.inl (Or.inr (Or.inl q))
      · exact Or.inl (Or.inl (by omega))
    · rcases Vp.upc hr h hz c hc with q | ⟨e, q⟩
      · exact Or.inl (Or.inr (Or.inr q))
      · exact absurd hz (by rw [(hr.uproot e).2.1]; omega)
theorem del_root {up q : Int} {t : Tr} (h : Vp L f up q t) (hx : x ∈ t.nodes) : (del x t).root = if t.root = (x : Int) then f x 3 else t.root := by
  cases t with
  | lf => simp [nodes] at hx
  | nd n i k r =>
    simp only [del]
    by_cases e : n = x
    · subst e
      rw [if_pos rfl, if_pos (show (nd n i k r).root = (n : Int) from rfl), h.1.2.2.2.2.2.1]
    · rw [if_neg e, if_neg (by simp only [root]; omega)]; rfl
theorem leave_view : ∀ {up q : Int} {t : Tr}, Vp L f up q t → t.cells.Nodup → x ∈ t.nodes → (∀ c ∈ t.cells, q ≠ (c : Int) ∧ up ≠ (c : Int)) →
    Vp L (lvF f x) up q (del x t) ∧ Vp L (lvF f x) (-1) (-1) (sub x t)
  | _, _, lf, _, _, h, _ => by simp [nodes] at h
  | up, q, nd n i k r, hv, hn, hx, hout => by
    obtain ⟨⟨h1, h2, h3, h4, h5, h6, h7, h8⟩, hk, hr⟩ := hv
    have hc := nd_cases hn hx
    have hnd := nd_nodup hn
    have hn0 := hn
    simp only [cells, List.nodup_cons, List.mem_cons, List.mem_append, List.nodup_append, not_or] at hn
    obtain ⟨⟨n1, n2, n3⟩, ⟨n4, n5⟩, n6, n7, n8⟩ := hn
    have on := hout n (by simp [cells])
    have ok : ∀ c ∈ k.cells, q ≠ (c : Int) ∧ up ≠ (c : Int) := fun c hc => hout c (by simp [cells, hc])
    have or' : ∀ c ∈ r.cells, q ≠ (c : Int) ∧ up ≠ (c : Int) := fun c hc => hout c (by simp [cells, hc])
    rcases hc with e | ⟨e, x1, x2⟩ | ⟨e, x1, x2⟩
    · subst e
      simp only [del, sub, if_pos]
      refine ⟨hr.reLeft n7 (fun _ _ => rfl) (fun c hc j hj => ?_) (fun c hc => ?_), ⟨h1, h2, ?_, ?_, ?_, ?_, by rw [lvF_key _ _ _ _ (by decide)]; exact h7, by rw [lvF_key _ _ _ _ (by decide)]; exact h8⟩, ?_, trivial⟩
      · unfold lvF
        rw [if_neg (show ¬ (c = n ∧ _) from fun z => n3 (z.1 ▸ hc)), if_neg (show ¬ (j = 2 ∧ f n 3 = (c : Int)) from fun z => hj ⟨z.1, by rw [← h6]; exact z.2⟩), if_neg (show ¬ (j = 1 ∧ f n 2 = -1 ∧ f n 0 = (c : Int)) from fun z => (or' c hc).2 (by rw [← h3]; exact z.2.2)), if_neg (show ¬ (j = 3 ∧ f n 2 ≠ -1 ∧ f n 2 = (c : Int)) from fun z => (or' c hc).1 (by rw [← h5]; exact z.2.2))]
      · unfold lvF
        rw [if_neg (show ¬ (c = n ∧ _) from fun z => n3 (z.1 ▸ root_mem hc)), if_pos ⟨rfl, by rw [h6]; exact hc⟩, h5]
      · unfold lvF; rw [if_pos ⟨rfl, Or.inl rfl⟩]
      · unfold lvF
        rw [if_neg (by omega), if_neg (by omega), if_neg (show ¬ (1 = 1 ∧ f n 2 = -1 ∧ f n 0 = (n : Int)) from fun z => on.2 (by rw [← h3]; exact z.2.2)), if_neg (by omega)]
        exact h4
      · unfold lvF; rw [if_pos ⟨rfl, Or.inr (Or.inl rfl)⟩]
      · unfold lvF; rw [if_pos ⟨rfl, Or.inr (Or.inr rfl)⟩]; rfl
      · refine hk.like fun c hc => ⟨rfl, fun j => lvF_out j (fun z => n2 (z ▸ hc)) (fun z => ?_) (fun _ z => (ok c hc).2 (by rw [← h3]; exact z)) (fun z => (ok c hc).1 (by rw [← h5]; exact z))⟩
        rw [h6] at z
        exact n8 c hc c (root_mem z) rfl
    · obtain ⟨v1, v2⟩ := leave_view hk n6 x1 (fun c hc => ⟨by omega, fun z => n2 (by have : n = c := by omega
                                                                                     rw [this]; exact hc)⟩)
      have nk : n ∉ k.nodes := fun z => n2 (node_cell z)
      have rr : ∀ c : Nat, f x 3 = (c : Int) → c ∈ k.nodes := hk.right x1
      have ll : ∀ c : Nat, f x 2 = (c : Int) → c ∈ k.nodes := fun c hc => (hk.left x1 c hc).resolve_right fun z => by have := z.2; omega
      have uu : f x 2 = -1 → ∀ c : Nat, f x 0 = (c : Int) → c ∈ k.nodes ∨ (k.root = (x : Int) ∧ n = c) := fun hz c hc => (hk.upc x1 hz c hc).imp id fun z => ⟨z.1, by have := z.2; omega⟩
      simp only [del, sub]
      rw [if_neg e, if_neg e, if_pos x1, del_no x2]
      have gn : ∀ j, j ≠ 1 → lvF f x n j = f n j := fun j hj => by
        unfold lvF
        rw [if_neg (fun z => e z.1), if_neg (fun z => nk (rr n z.2)), if_neg (fun z => hj z.1), if_neg (fun z => nk (ll n z.2.2))]
      refine ⟨⟨⟨h1, h2, by rw [gn 0 (by decide)]; exact h3, ?_, by rw [gn 2 (by decide)]; exact h5, by rw [gn 3 (by decide)]; exact h6, by rw [gn 6 (by decide)]; exact h7, by rw [lvF_key _ _ _ _ (by decide)]; exact h8⟩, v1, ?_⟩, v2⟩
      · rw [del_root hk x1]
        by_cases z : k.root = (x : Int)
        · obtain ⟨u1, u2, _⟩ := hk.uproot z
          rw [if_pos z]
          unfold lvF
          rw [if_neg (fun y => e y.1), if_neg (by omega), if_pos ⟨rfl, u2, u1⟩]
        · rw [if_neg z]
          unfold lvF
          rw [if_neg (fun y => e y.1), if_neg (by omega), if_neg (fun y => (uu y.2.1 n y.2.2).elim nk fun y => z y.1), if_neg (by omega)]
          exact h4
      · refine hr.like fun c hc => ⟨rfl, fun j => lvF_out j (fun z => n8 x (node_cell x1) x (z ▸ hc) rfl) (fun z => n8 c (node_cell (rr c z)) c hc rfl) (fun y z => (uu y c z).elim (fun y => n8 c (node_cell y) c hc rfl) fun y => n3 (y.2 ▸ hc)) (fun z => n8 c (node_cell (ll c z)) c hc rfl)⟩
    · obtain ⟨v1, v2⟩ := leave_view hr n7 x2 (fun c hc => ⟨fun z => n3 (by have : n = c := by omega
                                                                           rw [this]; exact hc), (or' c hc).2⟩)
      have nr : n ∉ r.nodes := fun z => n3 (node_cell z)
      have rr : ∀ c : Nat, f x 3 = (c : Int) → c ∈ r.nodes := hr.right x2
      have ll : ∀ c : Nat, f x 2 = (c : Int) → c ∈ r.nodes ∨ (r.root = (x : Int) ∧ n = c) := fun c hc => (hr.left x2 c hc).imp id fun z => ⟨z.1, by have := z.2; omega⟩
      have uu : f x 2 = -1 → ∀ c : Nat, f x 0 = (c : Int) → c ∈ r.nodes ∨ up = (c : Int) := fun hz c hc => (hr.upc x2 hz c hc).imp id fun z => z.2
      simp only [del, sub]
      rw [if_neg e, if_neg e, if_neg x1, del_no x1]
      have gn : ∀ j, j ≠ 3 → lvF f x n j = f n j := fun j hj => by
        unfold lvF
        rw [if_neg (fun z => e z.1), if_neg (fun z => nr (rr n z.2)), if_neg (fun z => (uu z.2.1 n z.2.2).elim nr on.2), if_neg (fun z => hj z.1)]
      refine ⟨⟨⟨h1, h2, by rw [gn 0 (by decide)]; exact h3, by rw [gn 1 (by decide)]; exact h4, by rw [gn 2 (by decide)]; exact h5, ?_, by rw [gn 6 (by decide)]; exact h7, by rw [lvF_key _ _ _ _ (by decide)]; exact h8⟩, ?_, v1⟩, v2⟩
      · rw [del_root hr x2]
        by_cases z : r.root = (x : Int)
        · obtain ⟨u1, u2, _⟩ := hr.uproot z
          rw [if_pos z]
          unfold lvF
          rw [if_neg (fun y => e y.1), if_neg (by omega), if_neg (by omega), if_pos ⟨rfl, by rw [u2]; omega, u2⟩]
        · rw [if_neg z]
          unfold lvF
          rw [if_neg (fun y => e y.1), if_neg (by omega), if_neg (by omega), if_neg (fun y => (ll n y.2.2).elim nr fun y => z y.1)]
          exact h6
      · refine hk.like fun c hc => ⟨rfl, fun j => lvF_out j (fun z => n8 x (z ▸ hc) x (node_cell x2) rfl) (fun z => n8 c hc c (node_cell (rr c z)) rfl) (fun y z => (uu y c z).elim (fun y => n8 c hc c (node_cell y) rfl) (ok c hc).2) (fun z => (ll c z).elim (fun y => n8 c hc c (node_cell y) rfl) fun y => n2 (y.2 ▸ hc))⟩
end
end Go.Proofs.YthfdooigljkfiaaGreat

/- The walks of alone, link, meld, below, leave: plain functions of the arena's state. -/
namespace Go.Proofs.YthfdooigljkfiaaGreat
open Go.ChangeShapes Go.WideShapes Go.ChangeAt Go.RowKit
open Tr

def aloneS (s : St) (n : Int) : St := setS (setS (setS s n 0 (-1)) n 2 (-1)) n 3 (-1)
def plinkS (s : St) (n m : Int) : St := setS (setS (setS (setS (tk s 1) (cellS s n 1) 2 m) m 3 (cellS s n 1)) m 0 n) n 1 m
def linkS (s : St) (n m : Int) : St := if nbS s m n = true then plinkS (tk s 6) m n else plinkS (tk s 6) n m
def linkR (s : St) (n m : Int) : Int := if nbS s m n = true then m else n
def leave1 (s : St) (n : Int) : St := if cellS s n 2 = -1 then setS (tk s 3) (cellS s n 0) 1 (cellS s n 3) else setS (tk s 3) (cellS s n 2) 3 (cellS s n 3)
def leaveS (s : St) (n : Int) : St := aloneS (setS (leave1 s n) (cellS s n 3) 2 (cellS s n 2)) n
theorem alone_steps (s : St) (n : Int) : (aloneS s n).steps = s.steps + 3 := by unfold aloneS; rw [set_steps, set_steps, set_steps]
theorem plink_steps (s : St) (n m : Int) : (plinkS s n m).steps = s.steps + 5 := by unfold plinkS; rw [set_steps, set_steps, set_steps, set_steps]; rfl
theorem link_steps (s : St) (n m : Int) : (linkS s n m).steps = s.steps + 11 := by unfold linkS; split <;> · rw [plink_steps]; rfl
theorem leave1_steps (s : St) (n : Int) : (leave1 s n).steps = s.steps + 4 := by unfold leave1; split <;> · rw [set_steps]; rfl
theorem leave_steps (s : St) (n : Int) : (leaveS s n).steps = s.steps + 8 := by unfold leaveS; rw [alone_steps, set_steps, leave1_steps]

section
variable {F : Nat → Prop} {w0 w w' : World} {pa pm : Nat} {s s' : St}
theorem aloneT (n : Int) (h : Ex F w0 w pa pm s) (hs : s.steps ≤ 99999000) :
    Calls Tryz.prog 75 #[.pointer (some ⟨pa, 0, none⟩), .int .i64 n] w fun e w' => e = .returned (.tuple #[]) ∧ Ex F w0 w' pa pm (aloneS s n) := by
  have C := hid (setT n 0 (-1) h (by omega))
  clear h
  go_enter Tryz.func75, Tryz.ntmps75
  go_wp2_with fail
  refine C.out.mono ?_
  rintro e w1 ⟨rfl, h1⟩
  have H1 := hid h1
  clear h1 C
  go_wp2_with fail
  refine (setT n 2 (-1) H1.out (by rw [set_steps]; omega)).mono ?_
  rintro e w2 ⟨rfl, h2⟩
  have H2 := hid h2
  clear h2 H1
  go_wp2_with fail
  refine (setT n 3 (-1) H2.out (by rw [set_steps, set_steps]; omega)).mono ?_
  rintro e w3 ⟨rfl, h3⟩
  have H3 := hid h3
  clear h3 H2
  go_wp2
  go_end0
  exact ⟨rfl, H3.out⟩
theorem linkT (n m : Int) (h : Ex F w0 w pa pm s) (hs : s.steps ≤ 99999000) :
    Calls Tryz.prog 66 #[.pointer (some ⟨pa, 0, none⟩), .int .i64 n, .int .i64 m] w fun e w' => e = .returned (.int .i64 (linkR s n m)) ∧ Ex F w0 w' pa pm (linkS s n m) := by
  have B := hid (nbeforeT m n h (by omega))
  clear h
  unfold linkR linkS
  by_cases q : nbS s m n = true
  · rw [q] at B
    rw [if_pos q, if_pos q]
    unfold plinkS
    rw [show cellS (tk s 6) m 1 = cellS s m 1 from rfl]
    obtain ⟨c, hc⟩ : ∃ c, c = cellS s m 1 := ⟨_, rfl⟩
    have HC := hid hc
    rw [← hc]
    clear q hc
    go_enter Tryz.func66, Tryz.ntmps66
    go_wp2_with fail
    refine B.out.mono ?_
    rintro e w1 ⟨rfl, h1⟩
    have H1 := hid h1
    clear h1 B
    go_wp2_with fail
    refine (cellT m 1 H1.out (by show s.steps + 6 ≤ _; omega)).mono ?_
    rintro e w2 ⟨rfl, h2⟩
    have H2 := hid h2
    rw [show cellS (tk s 6) m 1 = c from HC.out.symm]
    clear h2 H1
    go_wp2_with fail
    refine (setT c 2 n H2.out (by show s.steps + 6 + 1 ≤ _; omega)).mono ?_
    rintro e w3 ⟨rfl, h3⟩
    have H3 := hid h3
    clear h3 H2
    go_wp2_with fail
    refine (setT n 3 c H3.out (by rw [set_steps]; show s.steps + 6 + 1 + 1 ≤ _; omega)).mono ?_
    rintro e w4 ⟨rfl, h4⟩
    have H4 := hid h4
    clear h4 H3
    go_wp2_with fail
    refine (setT n 0 m H4.out (by rw [set_steps, set_steps]; show s.steps + 6 + 1 + 1 + 1 ≤ _; omega)).mono ?_
    rintro e w5 ⟨rfl, h5⟩
    have H5 := hid h5
    clear h5 H4
    go_wp2_with fail
    refine (setT m 1 n H5.out (by rw [set_steps, set_steps, set_steps]; show s.steps + 6 + 1 + 1 + 1 + 1 ≤ _; omega)).mono ?_
    rintro e w6 ⟨rfl, h6⟩
    have H6 := hid h6
    clear h6 H5
    go_wp2
    go_ret
    exact ⟨rfl, H6.out⟩
  · have q' : nbS s m n = false := by simpa using q
    rw [q'] at B
    rw [if_neg q, if_neg q]
    unfold plinkS
    rw [show cellS (tk s 6) n 1 = cellS s n 1 from rfl]
    obtain ⟨c, hc⟩ : ∃ c, c = cellS s n 1 := ⟨_, rfl⟩
    have HC := hid hc
    rw [← hc]
    clear q q' hc
    go_enter Tryz.func66, Tryz.ntmps66
    go_wp2_with fail
    refine B.out.mono ?_
    rintro e w1 ⟨rfl, h1⟩
    have H1 := hid h1
    clear h1 B
    go_wp2_with fail
    refine (cellT n 1 H1.out (by show s.steps + 6 ≤ _; omega)).mono ?_
    rintro e w2 ⟨rfl, h2⟩
    have H2 := hid h2
    rw [show cellS (tk s 6) n 1 = c from HC.out.symm]
    clear h2 H1
    go_wp2_with fail
    refine (setT c 2 m H2.out (by show s.steps + 6 + 1 ≤ _; omega)).mono ?_
    rintro e w3 ⟨rfl, h3⟩
    have H3 := hid h3
    clear h3 H2
    go_wp2_with fail
    refine (setT m 3 c H3.out (by rw [set_steps]; show s.steps + 6 + 1 + 1 ≤ _; omega)).mono ?_
    rintro e w4 ⟨rfl, h4⟩
    have H4 := hid h4
    clear h4 H3
    go_wp2_with fail
    refine (setT m 0 n H4.out (by rw [set_steps, set_steps]; show s.steps + 6 + 1 + 1 + 1 ≤ _; omega)).mono ?_
    rintro e w5 ⟨rfl, h5⟩
    have H5 := hid h5
    clear h5 H4
    go_wp2_with fail
    refine (setT n 1 m H5.out (by rw [set_steps, set_steps, set_steps]; show s.steps + 6 + 1 + 1 + 1 + 1 ≤ _; omega)).mono ?_
    rintro e w6 ⟨rfl, h6⟩
    have H6 := hid h6
    clear h6 H5
    go_wp2
    go_ret
    exact ⟨rfl, H6.out⟩
theorem meldT_same (r t : Int) (q : t = -1 ∨ r = t) (w : World) : Calls Tryz.prog 46 #[.pointer (some ⟨pa, 0, none⟩), .int .i64 r, .int .i64 t] w fun e w' => e = .returned (.int .i64 r) ∧ w' = w := by
  by_cases h : t = -1
  · subst h
    clear q
    go_enter Tryz.func46, Tryz.ntmps46
    go_wp2
    go_ret
    exact ⟨rfl, rfl⟩
  · obtain rfl := q.resolve_left h
    have h1 : (r == -1) = false := by simpa using h
    have h2 : (r == r) = true := by simp
    clear q h
    go_enter Tryz.func46, Tryz.ntmps46
    go_wp2
    go_ret
    exact ⟨rfl, rfl⟩
theorem meldT_l (t : Int) (q : t ≠ -1) (w : World) : Calls Tryz.prog 46 #[.pointer (some ⟨pa, 0, none⟩), .int .i64 (-1), .int .i64 t] w fun e w' => e = .returned (.int .i64 t) ∧ w' = w := by
  have h1 : (t == -1) = false := by simpa using q
  have h2 : ((-1 : Int) == t) = false := by simpa using fun e => q e.symm
  clear q
  go_enter Tryz.func46, Tryz.ntmps46
  go_wp2
  go_ret
  exact ⟨rfl, rfl⟩
theorem meldT_nd (r t : Int) (q1 : r ≠ -1) (q2 : t ≠ -1) (q3 : r ≠ t) (h : Ex F w0 w pa pm s) (hs : s.steps ≤ 99999000) :
    Calls Tryz.prog 46 #[.pointer (some ⟨pa, 0, none⟩), .int .i64 r, .int .i64 t] w fun e w' => e = .returned (.int .i64 (linkR s r t)) ∧ Ex F w0 w' pa pm (linkS s r t) := by
  have h1 : (r == -1) = false := by simpa using q1
  have h2 : (t == -1) = false := by simpa using q2
  have h3 : (r == t) = false := by simpa using q3
  have LN := hid (linkT r t h hs)
  clear q1 q2 q3 h
  go_enter Tryz.func46, Tryz.ntmps46
  go_wp2_with fail
  refine LN.out.mono ?_
  rintro e w1 ⟨rfl, e1⟩
  have E1 := hid e1
  clear LN e1
  go_wp2
  go_ret
  exact ⟨rfl, E1.out⟩
theorem belowT (r n : Int) (h : Ex F w0 w pa pm s) (hs : s.steps ≤ 99999000) :
    Calls Tryz.prog 57 #[.pointer (some ⟨pa, 0, none⟩), .int .i64 r, .int .i64 n] w fun e w' => e = .returned (.bool (rootS s r != -1 && cellS s n 0 != -1)) ∧ ∃ k, k ≤ 4 ∧ Ex F w0 w' pa pm (tk s k) := by
  have R := hid (rootT r h (by omega))
  clear h
  obtain ⟨x, hx⟩ : ∃ x, x = rootS s r := ⟨_, rfl⟩
  rw [← hx] at R ⊢
  obtain ⟨y, hy⟩ : ∃ y, y = cellS s n 0 := ⟨_, rfl⟩
  have HY := hid hy
  rw [← hy]
  clear hx hy
  by_cases q : x = -1
  · subst q
    have h0 : ((-1 : Int) != -1) = false := by simp
    go_enter Tryz.func57, Tryz.ntmps57
    go_wp2_with fail
    refine R.out.mono ?_
    rintro e w1 ⟨rfl, k, hk, h1⟩
    have H1 := hid h1
    have HK := hid hk
    clear h1 R hk
    go_wp2
    go_ret
    exact ⟨rfl, k, by have := HK.out; omega, H1.out⟩
  · have h0 : (x != -1) = true := by simpa using q
    clear q
    go_enter Tryz.func57, Tryz.ntmps57
    go_wp2_with fail
    refine R.out.mono ?_
    rintro e w1 ⟨rfl, k, hk, h1⟩
    have H1 := hid h1
    have HK := hid hk
    clear h1 R hk
    go_wp2_with fail
    refine (cellT n 0 H1.out (by show s.steps + k ≤ _; have := HK.out; omega)).mono ?_
    rintro e w2 ⟨rfl, h2⟩
    have H2 := hid h2
    clear h2 H1
    rw [show cellS (tk s k) n 0 = y from HY.out.symm]
    go_wp2
    go_ret
    exact ⟨by rw [h0]; simp, k + 1, by have := HK.out; omega, by rw [← tk_tk]; exact H2.out⟩
theorem leaveT (n : Int) (h : Ex F w0 w pa pm s) (hs : s.steps ≤ 99998000) :
    Calls Tryz.prog 58 #[.pointer (some ⟨pa, 0, none⟩), .int .i64 n] w fun e w' => e = .returned (.tuple #[]) ∧ Ex F w0 w' pa pm (leaveS s n) := by
  have C := hid (cellT n 0 h (by omega))
  clear h
  unfold leaveS leave1
  obtain ⟨u, hu⟩ : ∃ u, u = cellS s n 0 := ⟨_, rfl⟩
  obtain ⟨l, hl⟩ : ∃ l, l = cellS s n 2 := ⟨_, rfl⟩
  obtain ⟨r, hr⟩ : ∃ r, r = cellS s n 3 := ⟨_, rfl⟩
  have HL := hid hl
  have HR := hid hr
  rw [← hu] at C
  rw [← hu, ← hl, ← hr]
  clear hu hl hr
  have fin : ∀ (s2 : St) (w2 : World), Ex F w0 w2 pa pm s2 → s2.steps ≤ s.steps + 4 → Hid (Calls Tryz.prog 44 #[.pointer (some ⟨pa, 0, none⟩), .int .i64 r, .int .i64 2, .int .i64 l] w2 fun e w' => e = .returned (.bool (mayS s2 r 2)) ∧ Ex F w0 w' pa pm (setS s2 r 2 l)) ∧ ∀ w3, Ex F w0 w3 pa pm (setS s2 r 2 l) → Hid (Calls Tryz.prog 75 #[.pointer (some ⟨pa, 0, none⟩), .int .i64 n] w3 fun e w' => e = .returned (.tuple #[]) ∧ Ex F w0 w' pa pm (aloneS (setS s2 r 2 l) n)) := fun s2 w2 e2 h2 => ⟨hid (setT r 2 l e2 (by omega)), fun w3 e3 => hid (aloneT n e3 (by rw [set_steps]; omega))⟩
  have FIN := hid fin
  clear fin
  by_cases q : l = -1
  · subst q
    rw [if_pos rfl]
    go_enter Tryz.func58, Tryz.ntmps58
    go_wp2_with fail
    refine C.out.mono ?_
    rintro e w1 ⟨rfl, h1⟩
    have H1 := hid h1
    clear h1 C
    go_wp2_with fail
    refine (cellT n 2 H1.out (by show s.steps + 1 ≤ _; omega)).mono ?_
    rintro e w2 ⟨rfl, h2⟩
    have H2 := hid h2
    rw [show cellS (tk s 1) n 2 = -1 from HL.out.symm]
    clear h2 H1
    go_wp2_with fail
    refine (cellT n 3 H2.out (by show s.steps + 1 + 1 ≤ _; omega)).mono ?_
    rintro e w3 ⟨rfl, h3⟩
    have H3 := hid (show Ex F w0 w3 pa pm (tk s 3) from h3)
    rw [show cellS (tk (tk s 1) 1) n 3 = r from HR.out.symm]
    clear h3 H2
    go_wp2_with fail
    refine (setT u 1 r H3.out (by show s.steps + 3 ≤ _; omega)).mono ?_
    rintro e w4 ⟨rfl, h4⟩
    obtain ⟨A, B⟩ := FIN.out _ w4 h4 (by rw [set_steps]; show s.steps + 3 + 1 ≤ _; omega)
    have BB := hid B
    clear h4 H3 B
    go_wp2_with fail
    refine A.out.mono ?_
    rintro e w5 ⟨rfl, h5⟩
    have D := BB.out w5 h5
    clear h5 A BB
    go_wp2_with fail
    refine D.out.mono ?_
    rintro e w6 ⟨rfl, h6⟩
    have H6 := hid h6
    clear h6 D
    go_wp2
    go_end0
    exact ⟨rfl, H6.out⟩
  · rw [if_neg q]
    have hl0 : (l == -1) = false := by simpa using q
    clear q
    go_enter Tryz.func58, Tryz.ntmps58
    go_wp2_with fail
    refine C.out.mono ?_
    rintro e w1 ⟨rfl, h1⟩
    have H1 := hid h1
    clear h1 C
    go_wp2_with fail
    refine (cellT n 2 H1.out (by show s.steps + 1 ≤ _; omega)).mono ?_
    rintro e w2 ⟨rfl, h2⟩
    have H2 := hid h2
    rw [show cellS (tk s 1) n 2 = l from HL.out.symm]
    clear h2 H1
    go_wp2_with fail
    refine (cellT n 3 H2.out (by show s.steps + 1 + 1 ≤ _; omega)).mono ?_
    rintro e w3 ⟨rfl, h3⟩
    have H3 := hid (show Ex F w0 w3 pa pm (tk s 3) from h3)
    rw [show cellS (tk (tk s 1) 1) n 3 = r from HR.out.symm]
    clear h3 H2
    go_wp2_with fail
    refine (setT l 3 r H3.out (by show s.steps + 3 ≤ _; omega)).mono ?_
    rintro e w4 ⟨rfl, h4⟩
    obtain ⟨A, B⟩ := FIN.out _ w4 h4 (by rw [set_steps]; show s.steps + 3 + 1 ≤ _; omega)
    have BB := hid B
    clear h4 H3 B
    go_wp2_with fail
    refine A.out.mono ?_
    rintro e w5 ⟨rfl, h5⟩
    have D := BB.out w5 h5
    clear h5 A BB
    go_wp2_with fail
    refine D.out.mono ?_
    rintro e w6 ⟨rfl, h6⟩
    have H6 := hid h6
    clear h6 D
    go_wp2
    go_end0
    exact ⟨rfl, H6.out⟩
end
end Go.Proofs.YthfdooigljkfiaaGreat

/- Lists of numbers of a call's own; numbers appended to them. -/
namespace Go.Proofs.YthfdooigljkfiaaGreat
open Go.ChangeShapes Go.WideShapes Go.ChangeAt Go.RowKit

def int1 (x : Int) : List Value := [.int .i64 x]
theorem int1_len : ∀ x, (int1 x).length = 1 := fun _ => rfl
theorem int1_one : ∀ x, ∀ v ∈ int1 x, v.oneCell' = true := fun x v h => by simp [int1] at h; subst h; rfl
theorem int1_at : ∀ (l : List Int) (j : Nat), (row int1 l)[j]? = (l[j]?).map fun x => .int .i64 x
  | [], j => by simp [row]
  | x :: r, 0 => by simp [row, int1]
  | x :: r, j + 1 => by simp [row, int1]; simpa using int1_at r j
theorem int1_row_len (l : List Int) : (row int1 l).length = l.length := by rw [row_length int1_len, Nat.mul_one]
theorem int1_set (M : List Int) (j : Nat) (y : Int) (hj : j < M.length) : (row int1 M).set j (.int .i64 y) = row int1 (M.set j y) := by
  have := row_set int1_len M j 0 M[j] y (.int .i64 y) (List.getElem?_eq_getElem hj) (by omega) rfl
  simpa using this

theorem info3i : (Tryz.prog.info? 3).map (fun i => (i.zero, i.size, i.bytes)) = some (some (.int .i64 0), 1, 8) := by kernel_rfl

/-- a list that lies in memory -/
def Lst (w : World) (v : Value) (l : List Int) : Prop :=
  ∃ a c, v = .slice a l.length c ∧ l.length ≤ c ∧ c ≤ maxLen ∧ (a = none → c = 0) ∧ (l = [] ∨ ∃ b off, a = some ⟨b, off, none⟩ ∧ b < w.heap.size ∧ ∀ (i : Nat) (x : Int), l[i]? = some x → w.cell? ⟨b, off + i, none⟩ = some (.int .i64 x))

theorem Lst.below {w w' : World} {v : Value} {l : List Int} (h : Lst w v l) (k : Below w.heap.size w w') : Lst w' v l := by
  obtain ⟨a, c, e, h1, h2, h3, h4⟩ := h
  refine ⟨a, c, e, h1, h2, h3, ?_⟩
  rcases h4 with h4 | ⟨b, off, e, hb, hc⟩
  · exact Or.inl h4
  · exact Or.inr ⟨b, off, e, Nat.lt_of_lt_of_le hb k.size, fun i x hx => (k.cell (p := ⟨b, _, none⟩) hb).trans (hc i x hx)⟩
theorem Lst.nil (w : World) : Lst w (.slice none 0 0) [] := ⟨none, 0, rfl, Nat.le_refl _, Nat.zero_le _, fun _ => rfl, Or.inl rfl⟩

/-- a list that the call owns -/
def Own (w : World) (B : Nat) (v : Value) (l : List Int) : Prop := w.ownsRow B 3 1 v l.length (row int1 l)

theorem Own.lst {w : World} {B : Nat} {v : Value} {l : List Int} (h : Own w B v l) : Lst w v l := by
  rcases h.2 with ⟨rfl, h0⟩ | ⟨g, cap, cur, rfl, hb, hg, h1, h2, h3, h4⟩
  · have := List.eq_nil_of_length_eq_zero h0
    subst this
    exact Lst.nil w
  · refine ⟨some ⟨g, 0, none⟩, cap, rfl, h1, h2, (fun e => by cases e), Or.inr ⟨g, 0, rfl, lt_of_block hg, fun i x hx => ?_⟩⟩
    have hi : i < l.length := (List.getElem?_eq_some_iff.1 hx).1
    have := World.ownsRow.cellAt h (g := g) (cap := cap) i (by omega)
    rw [int1_at, hx] at this
    simpa using this
theorem Own.base {w : World} {B B' : Nat} {v : Value} {l : List Int} (h : Own w B v l) (hb : B' ≤ B) : Own w B' v l := by
  refine ⟨h.1, ?_⟩
  rcases h.2 with h' | ⟨g, cap, cur, rfl, hb', r⟩
  · exact Or.inl h'
  · exact Or.inr ⟨g, cap, cur, rfl, Nat.le_trans hb hb', r⟩
theorem Own.nil (w : World) (B : Nat) : Own w B (.slice none 0 0) [] := World.ownsRow_nil w B 3 1
theorem below_grown {w w' : World} {v : Value} {n : Nat} {xs : List Value} {w0 : World} (h : w.ownsRow w0.heap.size 3 1 v n xs) (g : w.grownBy w' v.ownBlock) (k : Below w0.heap.size w0 w) : Below w0.heap.size w0 w' :=
  k.grown g k.size fun j hj => (h.lt j hj).1

theorem append_lst {base : Nat} (w : World) (ty : TypeId) (v x : Value) (n : Nat) (xs : List Value) (l : List Int) (hown : w.ownsRow base 3 1 v n xs) (hx : Lst w x l) (h63 : n + l.length ≤ 1000000) (hbase : base ≤ w.heap.size) :
    ∃ v' w', (Builtin.append_ #[61, 61] ty #[v, x]).run Tryz.prog w = .ok v' w' ∧ w'.ownsRow base 3 1 v' (n + l.length) (xs ++ row int1 l) ∧ w.grownBy w' v.ownBlock := by
  obtain ⟨i, hi, h0, h1, h2⟩ := info_parts info3i
  obtain ⟨a, c, rfl, q1, q2, q3, q4⟩ := hx
  cases a with
  | none =>
    have hc := q3 rfl
    subst hc
    have hl : l = [] := List.eq_nil_of_length_eq_zero (by omega)
    subst hl
    exact ⟨v, w, run_append_owned_none (P := Tryz.prog) w base 61 ty 3 i 1 Tryz.underlying61 hi v n xs hown, by simpa [row] using hown, ⟨rfl, rfl, rfl, Nat.le_refl _, fun _ _ _ => rfl⟩⟩
  | some ad =>
    obtain ⟨v', w', hr, p1, p2, _⟩ := run_append_own (P := Tryz.prog) w base 61 ty 3 i _ 1 8 Tryz.underlying61 hi h0 h1 h2 rfl (by decide) v n xs hown ad l.length c (row int1 l) (by rw [int1_row_len, Nat.mul_one]) (fun j u hu => by
      rw [int1_at] at hu
      cases hj : l[j]? with
      | none => simp [hj] at hu
      | some y =>
        simp [hj] at hu
        subst hu
        rcases q4 with rfl | ⟨b, off, e, hb, hc⟩
        · simp at hj
        · cases e
          have := hc j y hj
          rwa [show (⟨b, off, none⟩ : Addr).add j = ⟨b, off + j, none⟩ by unfold Addr.add; split <;> simp_all]) (row_one int1_one l) (by simp [maxLen]; omega) (by omega) hbase
    exact ⟨v', w', hr, p1, p2⟩

theorem wpList_append_lst {ops : Array Oper} {rest : List Oper} {o : Oper} {a : Act} {w : World} {Q : Exit → Act → World → Prop} (hgd : o.guard = none) (s y : Operand)
    (ho : o.op = .call { callee := .builtin .append, args := #[s, y], argTypes := #[61, 61] })
    (base : Nat) (v x : Value) (n : Nat) (xs : List Value) (l : List Int) (hs : a.eval s = v) (hy : a.eval y = x) (hown : w.ownsRow base 3 1 v n xs) (hx : Lst w x l)
    (h63 : n + l.length ≤ 1000000) (hbase : base ≤ w.heap.size)
    (h : ∀ v' w', w'.ownsRow base 3 1 v' (n + l.length) (xs ++ row int1 l) → w.grownBy w' v.ownBlock → wpList Tryz.prog ops Q rest (a.put o.dst v') w') : wpList Tryz.prog ops Q (o :: rest) a w := by
  refine wpList_plain hgd fun _ hK => ?_
  obtain ⟨v', w', hr, h2, h3⟩ := append_lst w o.type v x n xs l hown hx h63 hbase
  unfold Oper.wp execOp
  simp only [ho, resolve, invoke, builtin, Sem.run_bind, Sem.run_pure, Result.andThen_ok, List.map_toArray, List.map_cons, List.map_nil, hs, hy, hr]
  exact hK _ _ (h v' w' h2 h3)
theorem step_append_lst {ops : Array Oper} {o : Oper} {a : Act} {w : World} {K : Act → World → Prop} {Q : Exit → Act → World → Prop} {E : Prop} (hgd : o.guard = none) (s y : Operand)
    (ho : o.op = .call { callee := .builtin .append, args := #[s, y], argTypes := #[61, 61] })
    (base : Nat) (v x : Value) (n : Nat) (xs : List Value) (l : List Int) (hs : a.eval s = v) (hy : a.eval y = x) (hown : w.ownsRow base 3 1 v n xs) (hx : Lst w x l)
    (h63 : n + l.length ≤ 1000000) (hbase : base ≤ w.heap.size)
    (h : ∀ v' w', w'.ownsRow base 3 1 v' (n + l.length) (xs ++ row int1 l) → w.grownBy w' v.ownBlock → K (a.put o.dst v') w') :
    if Region.wanted o (yielded ops a.tmps) = true then Oper.wp Tryz.prog o a w K Q else E := by
  have hw : Region.wanted o (yielded ops a.tmps) = true := by simp [Region.wanted, hgd]
  rw [if_pos hw]
  obtain ⟨v', w', hr, h2, h3⟩ := append_lst w o.type v x n xs l hown hx h63 hbase
  unfold Oper.wp execOp
  simp only [ho, resolve, invoke, builtin, Sem.run_bind, Sem.run_pure, Result.andThen_ok, List.map_toArray, List.map_cons, List.map_nil, hs, hy, hr]
  exact h v' w' h2 h3

theorem own_lit0 (w : World) (B : Nat) (hB : B ≤ w.heap.size) (l0 : List Int) (hl : l0.length ≤ 1000) (cs : Array Value) (hcs : cs = (row int1 l0).toArray) : Own (w.alloc (.cells cs 3)) B (.slice (some ⟨w.heap.size, 0, none⟩) l0.length l0.length) l0 := by
  subst hcs
  exact World.ownsRow_lit (base := B) (e := 3) (size := 1) w (row int1 l0).toArray l0.length hB (by unfold maxLen; omega) (by simp [int1_row_len])

end Go.Proofs.YthfdooigljkfiaaGreat
