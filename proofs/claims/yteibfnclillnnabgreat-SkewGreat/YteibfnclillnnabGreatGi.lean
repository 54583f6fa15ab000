/- Several texts in one. -/
import Derived.Test.YteibfnclillnnabGreatGh
import Derived.Test.YteibfnclillnnabGreatGf
import Derived.Test.YteibfnclillnnabGreatGm
import Derived.Test.YteibfnclillnnabGreatGg
import Derived.Test.YteibfnclillnnabGreatGc
/- The walk of Pop. -/
namespace Go.Proofs.YteibfnclillnnabGreat
open Go.ChangeShapes Go.WideShapes Go.ChangeAt Go.RowKit
open Tr

theorem Rmd.of_tk {s s' : St} {k : Nat} {vs ts : List Bn} {t : Bn} (h : Rmd (tk s k) s' vs t ts) : Rmd s s' vs t ts := ⟨h.bh, h.ok, h.num, h.most, h.ls, h.key, h.free, h.oth, h.cells, h.items⟩
theorem Aft.since {F : Nat → Prop} {w w2 w' : World} {pa pm : Nat} {s : St} (k : Kept F w w2) (hl : ∀ i, F i → i < w.heap.size) (h : Aft F w2 w' pa pm s) : Aft F w w' pa pm s :=
  ⟨h.is.widen (fun _ hj => hj.imp id fun q => ⟨Nat.le_trans k.size q.1, q.2⟩) (Grow.lt hl (Nat.le_trans k.size h.kept.size)), k.trans' h.kept, hl⟩
theorem flat_len {g : Bn → List Nat} : ∀ {ts : List Bn} {b : Bn}, b ∈ ts → (g b).length ≤ (ts.flatMap g).length
  | [], _, h => by cases h
  | a :: r, b, h => by
    rw [List.flatMap_cons, List.length_append]
    rcases List.mem_cons.1 h with e | h
    · rw [e]; omega
    · have := flat_len (g := g) h; omega
theorem chn_len9 {f : Nat → Nat → Int} : ∀ {l : List Bn} {last : Int}, Chn f last l → (∀ b ∈ l, b.rk ≤ 9) → last ≤ 9 → (l.length : Int) + last ≤ 9
  | [], _, _, _, hl => by simpa using hl
  | b :: r, last, h, hr, _ => by
    have h1 := hr b (by simp)
    have h2 := h.1
    have := chn_len9 h.2.2 (fun c hc => hr c (by simp [hc])) (by omega)
    simp only [List.length_cons]
    omega
/-- a heap of a thousand items at most -/
theorem Bh.small {lt : Nat → Nat → Bool} {s : St} {ts : List Bn} (h : Bh lt s ts) (hs : (ts.flatMap Bn.items).length ≤ 1000) : (∀ b ∈ ts, b.rk ≤ 9) ∧ ts.length ≤ 11 := by
  have rk : ∀ b ∈ ts, b.rk ≤ 9 := fun b hb => by
    have h1 := flat_len (g := Bn.items) hb
    have h2 : b.items.length = b.k.size + 1 := by simp [Bn.items, size_items]
    have h3 := kd_size b.k (h.vb b hb).2.1
    rcases Nat.lt_or_ge 9 (rkf b.k) with q | q
    · have h4 : 2 ^ 10 ≤ 2 ^ rkf b.k := Nat.pow_le_pow_right (by omega) q
      omega
    · exact q
  refine ⟨rk, ?_⟩
  have hc := h.ch
  match ts, hc, rk with
  | [], _, _ => simp
  | [x], _, _ => simp
  | x :: y :: r, hc, rk =>
    have c2 : Chn (hasS s) (y.rk : Int) r := hc.2.2.2.2.chn (by omega)
    have := chn_len9 c2 (fun b hb => rk b (by simp [hb])) (by have := rk y (by simp); omega)
    simp only [List.length_cons]
    omega

section
variable {F : Nat → Prop} {w w' : World} {pa pm : Nat} {s : St}
set_option maxHeartbeats 1000000 in
theorem bpopT_none (ok : Ok s) (h : IsA w F pa pm s) (hs : s.steps ≤ 99960000) :
    Calls Tryz.prog 19 #[.pointer (some ⟨pa, 0, none⟩), .int .i64 (-1)] w fun e w' => ∃ k : Nat, e = .returned (.tuple #[.int .i64 (-1), .int .i64 (-1)]) ∧ k ≤ 10 ∧ Ex F w w' pa pm (tk s k) := by
  have T := hid (treesT [] (fun b hb => by cases hb) trivial (by simp) ok (by simp) (fun b hb => by cases hb) h (by omega))
  have HFL := hid h.lt
  have OK := hid ok
  rw [headr_nil] at T
  clear h ok
  go_enter Tryz.func19, Tryz.ntmps19
  go_wp2_with fail
  refine T.out.mono ?_
  rintro e w1 ⟨v1, k1, rfl, o1, hk1, a1, q1⟩
  have L := hid (leastT [] v1 (s := tk s k1) (fun b hb => by cases hb) (Sm.tk OK.out k1).ok (by simp) o1.lst (fun a n c e hF => by
    subst e
    have := (World.ownsRow.lt o1 a.block rfl).1
    have := HFL.out _ hF
    omega) a1 (by show s.steps + k1 ≤ _; simp at hk1; omega))
  have Q1 := hid q1
  have hk1' : k1 ≤ 3 := by simpa using hk1
  clear o1 a1 q1 T hk1
  go_wp2_with fail
  refine L.out.mono ?_
  rintro e w2 ⟨o, k2, rfl, lo, hk2, a2, q2⟩
  have hk2' : k2 ≤ 0 := by simpa using hk2
  have ho : o = none := by
    cases o with
    | none => rfl
    | some b => exact absurd lo.1 (by simp)
  subst ho
  have E2 := hid (show Ex F w w2 pa pm (tk s (k1 + k2)) from ⟨by have := a2; rw [tk_tk] at this; exact this, Q1.out.trans' q2⟩)
  clear lo hk2 a2 q2 L Q1
  rw [show nod none = -1 from rfl]
  go_wp2
  go_ret2
  exact ⟨k1 + k2, rfl, by omega, E2.out⟩

set_option maxHeartbeats 2000000 in
theorem bpopT (ts : List Bn) (hne : ts ≠ []) (hb : Bh (befF (hasS s)) s ts) (hsm : (ts.flatMap Bn.items).length ≤ 1000) (ok : Ok s) (h : IsA w F pa pm s) (hs : s.steps ≤ 99960000) :
    Calls Tryz.prog 19 #[.pointer (some ⟨pa, 0, none⟩), .int .i64 (headr ts)] w fun e w' =>
      ∃ (t : Bn) (vs : List Bn) (s' : St), e = .returned (.tuple #[.int .i64 (headr vs), .int .i64 (t.i : Int)]) ∧ Lst1 (befF (hasS s)) ts t ∧ Rmd s s' vs t ts ∧ Aft F w w' pa pm s' ∧ s.steps ≤ s'.steps ∧ s'.steps ≤ s.steps + 900 := by
  have hl11 : ts.length ≤ 11 := (hb.small hsm).2
  have RK9 := hid (hb.small hsm).1
  have T := hid (treesT ts (fun b q => (hb.vb b q).1) hb.ch (tops_nodup hb.nd) ok (by omega) (fun b q => by have := hb.rk b q; omega) h (by omega))
  have HB := hid hb
  have OK := hid ok
  have HFL := hid h.lt
  have HSM := hid hsm
  have HNE := hid hne
  clear hb ok h hsm hne
  generalize headr ts = r0 at T ⊢
  go_enter Tryz.func19, Tryz.ntmps19
  go_wp2_with fail
  refine T.out.mono ?_
  rintro e w1 ⟨v1, k1, rfl, o1, hk1, a1, q1⟩
  have L := hid (leastT ts v1 (s := tk s k1) (fun b q => (HB.out.vb b q).1) (Sm.tk OK.out k1).ok (by omega) o1.lst (fun a n c e hF => by
    subst e
    have := (World.ownsRow.lt o1 a.block rfl).1
    have := HFL.out _ hF
    omega) a1 (by show s.steps + k1 ≤ _; omega))
  have O1 := hid o1
  have Q1 := hid q1
  clear o1 a1 q1 T
  go_wp2_with fail
  refine L.out.mono ?_
  rintro e w2 ⟨o, k2, rfl, lo, hk2, a2, q2⟩
  cases o with
  | none => exact absurd lo HNE.out
  | some t =>
    have LO := hid (show Lst1 (befF (hasS s)) ts t from lo)
    have htm : t ∈ ts := lo.1
    have TV := hid (HB.out.vb t htm).1
    have C6 := hid (cellT (t.n : Int) 6 (Ex.start a2) (by show s.steps + k1 + k2 ≤ _; omega))
    rw [show cellS (tk (tk s k1) k2) (t.n : Int) 6 = (t.i : Int) from vb_item (s := s) OK.out TV.out] at C6
    have O2 := hid (own_kept O1.out q2 (fun i hi hF => by have := (World.ownsRow.lt O1.out i hi).1; have := HFL.out i hF; omega))
    have Q2 := hid (Q1.out.trans' q2)
    have HTM := hid htm
    have ne1 : ((t.n : Int) == -1) = false := by simp
    rw [show nod (some t) = (t.n : Int) from rfl]
    clear lo a2 q2 L O1 Q1 htm
    go_wp2_with fail
    refine C6.out.mono ?_
    rintro e w3 ⟨rfl, h3⟩
    have O3 := hid (own_kept O2.out h3.kept (fun i hi hF => by have := (World.ownsRow.lt O2.out i hi).1; have := HFL.out i hF; omega))
    have Q3 := hid (Q2.out.trans' h3.kept)
    have R := hid (removeT (s := tk (tk (tk s k1) k2) 1) ts t v1 (fun b q => (HB.out.vb b q).1) (fun b q _ => (HB.out.vb b q).2) (HB.out.vb t HTM.out).2.gt HB.out.nd HTM.out (by omega) (HB.out.rk t HTM.out) (by have := HSM.out; omega) (Sm.tk (Sm.tk (Sm.tk OK.out k1).ok k2).ok 1).ok (Own.lst O3.out) (fun a n c e hF => by
      subst e
      have := (World.ownsRow.lt O3.out a.block rfl).1
      have := HFL.out _ hF
      omega) h3.is (by show s.steps + k1 + k2 + 1 ≤ _; omega))
    clear h3 C6 O2 Q2
    go_wp2_with fail
    refine R.out.mono ?_
    rintro e w4 ⟨vs, s', rfl, r4, a4, st1, st2⟩
    have R4 := hid (r4.of_tk.of_tk.of_tk)
    have A4 := hid (Aft.since Q3.out HFL.out a4)
    have S4 := hid (show s.steps + k1 + k2 + 1 ≤ s'.steps ∧ s'.steps ≤ s.steps + k1 + k2 + 1 + 21 + 57 * t.rk + 13 * ts.length from ⟨st1, st2⟩)
    clear r4 a4 st1 st2 R
    go_wp2
    go_ret2
    exact ⟨t, vs, s', rfl, LO.out, R4.out, A4.out, by have := S4.out.1; omega, by have := S4.out.2; have := RK9.out t HTM.out; omega⟩
end
end Go.Proofs.YteibfnclillnnabGreat

/- An item goes up: what holds from Swap to Swap. -/
namespace Go.Proofs.YteibfnclillnnabGreat
open Go.ChangeShapes Go.WideShapes Go.ChangeAt Go.RowKit
open Tr

theorem pr_ne {x i y p : Nat} : ∀ {t : Tr}, Pr x i y p t → t.items.Nodup → i ≠ p
  | lf, h, _ => h.elim
  | nd n j k r, h, hn => by
    simp only [items, List.nodup_cons, List.mem_append, not_or, List.nodup_append] at hn
    obtain ⟨⟨n1, n2⟩, n3, n4, n5⟩ := hn
    rcases h with ⟨_, e2, e3⟩ | h | h
    · subst e2; exact fun e => n1 (e ▸ ktop_item e3)
    · exact pr_ne h n3
    · exact pr_ne h n4
theorem prb_ne {x i y p : Nat} {b : Bn} (h : PrB x i y p b) (hn : b.items.Nodup) : i ≠ p := by
  simp only [Bn.items, List.nodup_cons] at hn
  rcases h with ⟨_, e2, e3⟩ | h
  · subst e2; exact fun e => hn.1 (e ▸ ktop_item e3)
  · exact pr_ne h hn.2
theorem bn_items_nodup {b : Bn} (h : b.cells.Nodup) : b.items.Nodup := by
  have := (bn_cells b).nodup_iff.1 h
  rw [List.nodup_cons, List.nodup_append] at this
  exact this.2.2.1

/-- the tree b is b' now; U: the way up; the item is at U's place k -/
structure Lv (s0 s : St) (i : Nat) (b b' : Bn) (U : List Nat) (k : Nat) : Prop where
  sm : Sm s0 s
  vb : Vb (LS s) (hasS s) b'
  n : b'.n = b.n
  rk : b'.rk = b.rk
  right : ∀ c, hasS s c 3 = hasS s0 c 3
  oth : ∀ c, c ∉ b.cells → ∀ j, hasS s c j = hasS s0 c j
  key : ∀ c, hasS s c 7 = hasS s0 c 7 ∧ hasS s c 8 = hasS s0 c 8
  jb : Jb (befF (hasS s0)) i b'
  cells : b'.cells.Perm b.cells
  items : b'.items.Perm b.items
  nd : b'.cells.Nodup
  path : Cq (PrN b') U
  last : U.getLast? = some b'.n
  cur : ∃ x, U[k]? = some x ∧ (x, i) ∈ niB b'
theorem Lv.tk {s0 s : St} {i : Nat} {b b' : Bn} {U : List Nat} {k : Nat} (h : Lv s0 s i b b' U k) (j : Nat) : Lv s0 (tk s j) i b b' U k :=
  ⟨h.sm.trans (Sm.tk h.sm.ok j), h.vb, h.n, h.rk, h.right, h.oth, h.key, h.jb, h.cells, h.items, h.nd, h.path, h.last, h.cur⟩
theorem Lv.start {s0 : St} {i : Nat} {b : Bn} (ok : Ok s0) (hv : Vb (LS s0) (hasS s0) b) (hj : Jb (befF (hasS s0)) i b) (hn : b.cells.Nodup) (hi : i ∈ b.items) : ∃ (x : Nat) (U : List Nat), Lv s0 s0 i b b U 0 ∧ hasS s0 i 9 = (x : Int) ∧ LS s0 x = true ∧ LS s0 i = true ∧ U.length ≤ b.rk + 1 ∧ ∀ k, U.length ≤ k → wayS s0 k (x : Int) = U.map fun (c : Nat) => (c : Int) := by
  obtain ⟨x, hx⟩ := nib_item hi
  obtain ⟨U, u1, u2, u3, u4⟩ := path_tree hj.1 hx
  obtain ⟨p1, p2, p3, p4⟩ := hv.pair hx
  refine ⟨x, U, ⟨Sm.refl ok, hv, rfl, rfl, fun _ => rfl, fun _ _ _ => rfl, fun _ => ⟨rfl, rfl⟩, hj, .refl _, .refl _, hn, u2, u3, x, by rw [← List.head?_eq_getElem?]; exact u1, hx⟩, p4, p1, p2, u4, fun k hk => ?_⟩
  have := way_path ok hv U k (fun e => by subst e; simp at u1) u2 u3 hk
  rw [u1] at this
  exact this
/-- one Swap -/
theorem Lv.step {s0 s : St} {i : Nat} {b b' : Bn} {U : List Nat} {k x y : Nat} (h : Lv s0 s i b b' U k) (hx : U[k]? = some x) (hy : U[k + 1]? = some y) :
    ∃ p, PrB x i y p b' ∧ i ≠ p ∧ x ≠ y ∧ LS s x = true ∧ LS s y = true ∧ LS s i = true ∧ LS s p = true ∧ cellS s (x : Int) 6 = (i : Int) ∧ cellS s (y : Int) 6 = (p : Int) ∧ nbS s (x : Int) (y : Int) = befF (hasS s0) i p ∧
      ∀ j, Lv s0 (swB (Go.Proofs.YteibfnclillnnabGreat.tk s j) x y i p) i b (renB (tsp i p) b') U (k + 1) := by
  obtain ⟨x', hx', hm⟩ := h.cur
  rw [hx] at hx'
  injection hx' with hx'
  subst hx'
  have hni := bn_items_nodup h.nd
  obtain ⟨i', p, hp⟩ := h.path.at hx hy
  obtain ⟨m1, m2⟩ := prb_ni hp
  obtain ⟨a1, a2, a3, a4⟩ := h.vb.pair hm
  obtain ⟨b1, b2, b3, b4⟩ := h.vb.pair m1
  obtain ⟨c1, c2, c3, c4⟩ := h.vb.pair m2
  have : i' = i := by rw [a3] at b3; omega
  subst this
  have hip := prb_ne hp hni
  have hxy : x ≠ y := fun e => hip (by subst e; rw [a3] at c3; omega)
  have ci : cellS s (x : Int) 6 = (i' : Int) := cell_nat (j := 6) h.sm.ok a1 (by decide) a3 a2
  have cp : cellS s (y : Int) 6 = (p : Int) := cell_nat (j := 6) h.sm.ok c1 (by decide) c3 c2
  have keyE : befF (hasS s) = befF (hasS s0) := by funext u v; exact bef_key h.key u v
  refine ⟨p, hp, hip, hxy, a1, c1, a2, c2, ci, cp, ?_, fun j => ?_⟩
  · unfold nbS
    rw [ci, cp, bef_nat a2 c2, keyE]
  · have okj := (Sm.tk h.sm.ok j).ok
    obtain ⟨sm, hv⟩ := swB_view (s := Go.Proofs.YteibfnclillnnabGreat.tk s j) (n := x) (m := y) (i := i') (j := p) okj a1 c1 a2 c2
    have hv' : hasS (swB (Go.Proofs.YteibfnclillnnabGreat.tk s j) x y i' p) = swF (hasS s) x y i' p := hv
    have V := h.vb.swap m1 m2 hxy
    obtain ⟨q1, q2⟩ := prb_items hp
    have inb : ∀ n q, (n, q) ∈ niB b' → n ∈ b'.cells := fun n q hq => by
      have : ∀ {t : Tr}, (n, q) ∈ ni t → n ∈ t.cells := fun {t} => by
        induction t with
        | lf => intro h; simp [ni] at h
        | nd m e k r ih1 ih2 =>
          intro h
          simp only [ni, List.mem_cons, Prod.mk.injEq, List.mem_append] at h
          simp only [Tr.cells, List.mem_cons, List.mem_append]
          rcases h with h | h | h
          · exact Or.inl h.1
          · exact Or.inr (Or.inr (Or.inl (ih1 h)))
          · exact Or.inr (Or.inr (Or.inr (ih2 h)))
      simp only [niB, List.mem_cons, Prod.mk.injEq] at hq
      simp only [Bn.cells, List.mem_cons]
      rcases hq with hq | hq
      · exact Or.inl hq.1
      · exact Or.inr (Or.inr (this hq))
    have RC := renb_cells (b := b') hni q1 q2
    refine ⟨h.sm.trans ((Sm.tk h.sm.ok j).trans sm), ?_, h.n, ?_, fun c => ?_, fun c hc j => ?_, fun c => ?_, jb_swap (befF_tot _) hip hp hni h.jb, RC.trans h.cells, ?_, RC.nodup_iff.2 h.nd, Cq.mono (fun _ _ => prn_ren) h.path, h.last, ⟨y, hy, ?_⟩⟩
    · rw [show LS (swB (Go.Proofs.YteibfnclillnnabGreat.tk s j) x y i' p) = LS s from sm.ls, hv']
      exact V
    · show rkf (ren _ b'.k) = _
      rw [ren_rkf]; exact h.rk
    · rw [hv', swF_low (by decide) (by decide)]; exact h.right c
    · have hc' : c ∉ b'.cells := fun e => hc (h.cells.mem_iff.1 e)
      have n1 : c ≠ x := fun e => hc' (e ▸ inb x i' m1)
      have n2 : c ≠ y := fun e => hc' (e ▸ inb y p m2)
      have n3 : c ≠ i' := fun e => hc' (e ▸ bn_items q1)
      have n4 : c ≠ p := fun e => hc' (e ▸ bn_items q2)
      rw [hv']; unfold swF
      rw [put_ne n3, put_ne n2, put_ne n4, put_ne n1]; exact h.oth c hc j
    · rw [hv', swF_low (by decide) (by decide), swF_low (by decide) (by decide)]; exact h.key c
    · rw [renb_items]; exact (tsp_perm hni q1 q2).trans h.items
    · have := nib_ren (g := tsp i' p) m2
      rw [tsp_p] at this
      exact this
/-- the item is on top -/
theorem Lv.top {s0 s : St} {i : Nat} {b b' : Bn} {U : List Nat} {k : Nat} (h : Lv s0 s i b b' U k) (hk : U.length ≤ k + 1) : b'.i = i ∧ U.length = k + 1 := by
  obtain ⟨x, hx, hm⟩ := h.cur
  have hlt := (List.getElem?_eq_some_iff.1 hx).1
  have e : U.length = k + 1 := by omega
  have hl := h.last
  rw [List.getLast?_eq_getElem?, e, Nat.add_sub_cancel, hx] at hl
  injection hl with hl
  subst hl
  have h3 := (h.vb.pair hm).2.2.1
  have h6 := h.vb.item
  exact ⟨by rw [h6] at h3; omega, e⟩
theorem way_tk (s : St) (j : Nat) : ∀ (k : Nat) (n : Int), wayS (tk s j) k n = wayS s k n
  | 0, _ => rfl
  | k + 1, n => by
    show (if n = -1 then [] else n :: wayS (tk s j) k (cellS s n 0)) = (if n = -1 then [] else n :: wayS s k (cellS s n 0))
    rw [way_tk s j k]
end Go.Proofs.YteibfnclillnnabGreat

/- The walk of Rise. -/
namespace Go.Proofs.YteibfnclillnnabGreat
open Go.ChangeShapes Go.WideShapes Go.ChangeAt Go.RowKit
open Tr

section
variable {F : Nat → Prop} {w w' : World} {pa pm : Nat} {s : St}
theorem up_cell {w : World} {B : Nat} {g : Option Addr} {n c : Nat} {U : List Nat} (h : Own w B (.slice g n c) (U.map fun (c : Nat) => (c : Int))) {k x : Nat} (hx : U[k]? = some x) : ∃ b, g = some ⟨b, 0, none⟩ ∧ n = U.length ∧ B ≤ b ∧ b < w.heap.size ∧ ∀ (j y : Nat), U[j]? = some y → w.cell? ⟨b, j, none⟩ = some (.int .i64 (y : Int)) := by
  have hn : n = (U.map fun (c : Nat) => (c : Int)).length := by
    obtain ⟨a', c', e⟩ := own_form h
    injection e
  subst hn
  have hk := (List.getElem?_eq_some_iff.1 hx).1
  rcases h.2 with ⟨e, h0⟩ | ⟨b, cap, cur, e, hb, hg, _⟩
  · simp at h0; rw [h0] at hk; simp at hk
  · injection e with e1 e2 e3
    subst e1 e3
    refine ⟨b, rfl, by simp, hb, lt_of_block hg, fun j y hy => ?_⟩
    have hj := (List.getElem?_eq_some_iff.1 hy).1
    have := World.ownsRow.cellAt h (g := b) (cap := c) j (by simpa using hj)
    rw [int1_at, List.getElem?_map, hy] at this
    exact this

set_option maxHeartbeats 4000000 in
theorem riseT (b : Bn) (i x : Nat) (U : List Nat) (hL : Lv s s i b b U 0) (hlo : LoB (befF (hasS s)) i b) (h9 : hasS s i 9 = (x : Int)) (lx : LS s x = true) (li : LS s i = true) (hU : U.length ≤ 16)
    (hw : wayS s 16 (x : Int) = U.map fun (c : Nat) => (c : Int)) (ok : Ok s) (h : IsA w F pa pm s) (hs : s.steps ≤ 99980000) :
    Calls Tryz.prog 50 #[.pointer (some ⟨pa, 0, none⟩), .int .i64 (i : Int)] w fun e w' => e = .returned (.tuple #[]) ∧ ∃ (b' : Bn) (s' : St) (k : Nat), Lv s s' i b b' U k ∧ Gb (befF (hasS s)) b' ∧ Ex F w w' pa pm s' ∧ s.steps ≤ s'.steps ∧ s'.steps ≤ s.steps + 250 := by
  have N := hid (nodeT (i : Int) (Ex.start h) (by omega))
  rw [show cellS s (i : Int) 9 = (x : Int) from cell_nat (j := 9) ok li (by decide) h9 lx] at N
  have HFL := hid h.lt
  have HL := hid hL
  have HLO := hid hlo
  have HW := hid hw
  have HOK := hid ok
  clear hL hlo h9 lx li hw h ok
  go_enter Tryz.func50, Tryz.ntmps50
  go_wp2_with fail
  refine N.out.mono ?_
  rintro e w1 ⟨rfl, h1⟩
  have W := hid (wayT (x : Int) h1.is (by show s.steps + 1 ≤ _; omega))
  have Q1 := hid h1.kept
  clear h1 N
  go_wp2_with fail
  refine W.out.mono ?_
  rintro e w2 ⟨v, rfl, o2, a2, hl2, q2⟩
  rw [way_tk, HW.out] at o2 a2
  have O2 := hid (show Own w2 w.heap.size v (U.map fun (c : Nat) => (c : Int)) from o2.base Q1.out.size)
  have A2 := hid a2
  have Q2 := hid (Q1.out.trans' q2)
  have hUl : (U.map fun (c : Nat) => (c : Int)).length = U.length := by simp
  rw [hUl] at A2
  clear o2 a2 hl2 q2 W Q1 hUl
  obtain ⟨g, gc, rfl⟩ := own_form O2.out
  obtain ⟨x0, hx0, _⟩ := HL.out.cur
  obtain ⟨bk, rfl, _, hb1, hb2, hcs⟩ := up_cell O2.out hx0
  have CS := hid hcs
  have NF : ¬ F bk := fun hF => by have := HFL.out _ hF; omega
  have hUp : 0 < U.length := (List.getElem?_eq_some_iff.1 hx0).1
  have HX0 := hid hx0
  rw [show (U.map fun (c : Nat) => (c : Int)).length = U.length by simp]
  clear hx0 hcs
  go_wp2_with fail
  go_loopw [5] (fun av wr => ∃ (k a : Nat) (b' : Bn) (s' : St), av = .int .i64 (a : Int) ∧ Hid (a = k + 1) ∧ k < 16 ∧ k < U.length ∧ Hid (Lv s s' i b b' U k) ∧ Hid (LoB (befF (hasS s)) i b') ∧ Hid (Ex F w2 wr pa pm s') ∧ Hid (s.steps ≤ s'.steps ∧ s'.steps ≤ s.steps + 17 + 12 * k)) (fun av _ => 17 - (intOf av).toNat)
  case atStart => exact ⟨0, 1, b, _, rfl, hid rfl, by omega, hUp, hid ((HL.out.tk 1).tk U.length), HLO, hid (Ex.start A2.out), hid ⟨by show s.steps ≤ s.steps + 1 + U.length; omega, by show s.steps + 1 + U.length ≤ _; omega⟩⟩
  case round =>
    clear HL HLO A2 HX0
    obtain ⟨k, a, b', s', rfl, ha, hk16, hkU, hL, hLo, hE, hST⟩ := hrel
    by_cases hlt : a < U.length
    · have hlt' : (a : Int) < (U.length : Int) := by omega
      have hd : decide ((a : Int) < (U.length : Int)) = true := by simp; omega
      have hx : U[k]? = some U[k] := List.getElem?_eq_getElem hkU
      have hy : U[a]? = some U[a] := List.getElem?_eq_getElem hlt
      generalize U[k] = xk at hx
      generalize U[a] = yk at hy
      have c1 : wr.cell? ⟨bk, k, none⟩ = some (.int .i64 (xk : Int)) := (hE.out.kept.cell (p := ⟨bk, k, none⟩) hb2 NF).trans (CS.out _ _ hx)
      have c2 : wr.cell? ⟨bk, a, none⟩ = some (.int .i64 (yk : Int)) := (hE.out.kept.cell (p := ⟨bk, a, none⟩) hb2 NF).trans (CS.out _ _ hy)
      obtain ⟨p, st1, st2, st3, st4, st5, st6, st7, st8, st9, st10, st11⟩ := hL.out.step hx (by rw [← ha.out]; exact hy)
      have j1 : (a : Int) - 1 = (k : Int) := by have := ha.out; omega
      have hw1 : IntKind.i64.wrap (k : Int) = (k : Int) := IntWalk.i64_in _ (by omega)
      have NB := hid (fun (wx : World) (hx : Ex F w2 wx pa pm s') => nbeforeT (xk : Int) (yk : Int) hx (by have := hST.out.2; omega))
      rw [st10] at NB
      have PR := hid st1
      have HX := hid hx
      have HY := hid hy
      have IP := hid st2
      have NX := hid (st11 6)
      have SW := hid (fun (wx : World) (hx : Ex F w2 wx pa pm (tk s' 6)) => swapT (s := tk s' 6) xk yk i p st3 st4 st5 st6 st7 st8 st9 (Sm.tk hL.out.sm.ok 6).ok hx (by show s'.steps + 6 ≤ _; have := hST.out.2; omega))
      have hb2' : bk < wr.heap.size := Nat.lt_of_lt_of_le hb2 hE.out.kept.size
      have ha16 : a ≤ 16 := by have := ha.out; omega
      clear hx hy st1 st2 st3 st4 st5 st6 st7 st8 st9 st10 st11
      cases q : befF (hasS s) i p
      · rw [q] at NB
        have HQ := hid q
        clear q SW NX
        go_wp2_with fail
        go_region_held3 (fun w' => w'.cell? ⟨bk, k, none⟩ = some (.int .i64 (xk : Int)) ∧ w'.cell? ⟨bk, a, none⟩ = some (.int .i64 (yk : Int))) (first | exact ⟨c1, c2⟩ | (simp [go_sem]; exact ⟨c1, c2⟩))
          (first
            | (go_at_call 51; (refine (NB.out _ (by first | exact hE.out | exact hE.out.drew | exact hE.out.drewN _)).mono ?_); rintro e w3 ⟨rfl, h3⟩; have hsz3 := h3.kept.size; replace c1 := (h3.kept.cell (p := ⟨bk, k, none⟩) hb2 NF).trans (CS.out _ _ HX.out); replace c2 := (h3.kept.cell (p := ⟨bk, a, none⟩) hb2 NF).trans (CS.out _ _ HY.out); have H3 := hid h3; clear h3))
        go_wp2
        go_end0
        exact ⟨rfl, b', _, k, hL.out.tk 6, gb_done IP.out HQ.out PR.out (bn_items_nodup hL.out.nd) hL.out.jb hLo.out, ⟨H3.out.is, Q2.out.trans' H3.out.kept⟩, by show s.steps ≤ s'.steps + 6; have := hST.out.1; omega, by show s'.steps + 6 ≤ _; have := hST.out.2; omega⟩
      · rw [q] at NB
        have HQ := hid q
        clear q
        go_wp2_with fail
        go_region_held3 (fun w' => w'.cell? ⟨bk, k, none⟩ = some (.int .i64 (xk : Int)) ∧ w'.cell? ⟨bk, a, none⟩ = some (.int .i64 (yk : Int))) (first | exact ⟨c1, c2⟩ | (simp [go_sem]; exact ⟨c1, c2⟩))
          (first
            | (go_at_call 51; (refine (NB.out _ (by first | exact hE.out | exact hE.out.drew | exact hE.out.drewN _)).mono ?_); rintro e w3 ⟨rfl, h3⟩; have hsz3 := h3.kept.size; replace c1 := (h3.kept.cell (p := ⟨bk, k, none⟩) hb2 NF).trans (CS.out _ _ HX.out); replace c2 := (h3.kept.cell (p := ⟨bk, a, none⟩) hb2 NF).trans (CS.out _ _ HY.out); have H3 := hid h3; clear h3))
        go_wp2_with fail
        go_region_held3 (fun w' => w'.cell? ⟨bk, k, none⟩ = some (.int .i64 (xk : Int)) ∧ w'.cell? ⟨bk, a, none⟩ = some (.int .i64 (yk : Int))) (first | exact ⟨c1, c2⟩ | (simp [go_sem]; exact ⟨c1, c2⟩))
          (first
            | (go_at_call 74; (refine (SW.out _ (by first | exact H3.out | exact H3.out.drew | exact H3.out.drewN _)).mono ?_); rintro e w4 ⟨rfl, h4⟩; have hsz4 := h4.kept.size; replace c1 := (h4.kept.cell (p := ⟨bk, k, none⟩) hb2 NF).trans (CS.out _ _ HX.out); replace c2 := (h4.kept.cell (p := ⟨bk, a, none⟩) hb2 NF).trans (CS.out _ _ HY.out); have H4 := hid h4; clear h4))
        go_wp2
        go_roundw
        case rel => exact ⟨k + 1, a + 1, renB (tsp i p) b', _, by go_num, hid (by rw [ha.out]), by omega, by have := ha.out; omega, hid NX.out, hid (lob_swap (befF_tot _) IP.out HQ.out PR.out (bn_items_nodup hL.out.nd) hL.out.jb), H4, hid ⟨by rw [swB_steps]; show s.steps ≤ s'.steps + 6 + 6; have := hST.out.1; omega, by rw [swB_steps]; show s'.steps + 6 + 6 ≤ _; have := hST.out.2; omega⟩⟩
        case measure => simp [intOf]; omega
    · have hd : decide (a < U.length) = false := by simp; omega
      have TP := hL.out.top (by have := ha.out; omega)
      have HG := hid (gb_top TP.1 hL.out.jb hLo.out)
      clear TP hlt
      go_wp2_with fail
      go_quiet (fail)
      go_wp2
      go_end0
      exact ⟨rfl, b', s', k, hL.out, HG.out, ⟨(hE.out.drewN _).is, Q2.out.trans' (hE.out.drewN _).kept⟩, hST.out.1, by have := hST.out.2; omega⟩
end
end Go.Proofs.YteibfnclillnnabGreat

/- The walks of Lift, Fall and Cut. -/
namespace Go.Proofs.YteibfnclillnnabGreat
open Go.ChangeShapes Go.WideShapes Go.ChangeAt Go.RowKit
open Tr

theorem Lst.kept {F : Nat → Prop} {w w' : World} {v : Value} {l : List Int} (h : Lst w v l) (k : Kept F w w') (hF : ∀ a n c, v = .slice (some a) n c → ¬ F a.block) : Lst w' v l := by
  obtain ⟨a, c, e, h1, h2, h3, h4⟩ := h
  refine ⟨a, c, e, h1, h2, h3, ?_⟩
  rcases h4 with h4 | ⟨b, off, e', hb, hc⟩
  · exact Or.inl h4
  · subst e'
    exact Or.inr ⟨b, off, rfl, Nat.lt_of_lt_of_le hb k.size, fun i x hx => (k.cell (p := ⟨b, off + i, none⟩) hb (hF ⟨b, off, none⟩ _ _ e)).trans (hc i x hx)⟩

section
variable {F : Nat → Prop} {w w' : World} {pa pm : Nat} {s : St}
set_option maxHeartbeats 4000000 in
theorem liftT (ts : List Bn) (v0 : Value) (b : Bn) (i x : Nat) (U : List Nat) (hb : b ∈ ts) (hl : ts.length ≤ 16) (hL0 : Lst w v0 (nds ts)) (hLf : ∀ a n c, v0 = .slice (some a) n c → ¬ F a.block) (hL : Lv s s i b b U 0) (h9 : hasS s i 9 = (x : Int)) (lx : LS s x = true) (li : LS s i = true) (hU : U.length ≤ 16)
    (hw : wayS s 16 (x : Int) = U.map fun (c : Nat) => (c : Int)) (ok : Ok s) (h : IsA w F pa pm s) (hs : s.steps ≤ 99980000) :
    Calls Tryz.prog 54 #[.pointer (some ⟨pa, 0, none⟩), v0, .int .i64 (i : Int)] w fun e w' => e = .returned (.int .i64 (b.n : Int)) ∧ ∃ (b' : Bn) (s' : St) (k : Nat), Lv s s' i b b' U k ∧ b'.i = i ∧ Ex F w w' pa pm s' ∧ s.steps ≤ s'.steps ∧ s'.steps ≤ s.steps + 130 := by
  have N := hid (nodeT (i : Int) (Ex.start h) (by omega))
  rw [show cellS s (i : Int) 9 = (x : Int) from cell_nat (j := 9) ok li (by decide) h9 lx] at N
  have hnl : (nds ts).length = ts.length := by simp [nds]
  have CO := hid (fun (wx : World) (hx : Lst wx v0 (nds ts)) => containsT (nds ts) v0 (b.n : Int) wx hx (by omega))
  rw [show decide ((b.n : Int) ∈ nds ts) = true by simp only [decide_eq_true_eq]; exact List.mem_map.2 ⟨b, hb, rfl⟩] at CO
  have HFL := hid h.lt
  have HL := hid hL
  have HL0 := hid hL0
  have HLF := hid hLf
  have HW := hid hw
  have HOK := hid ok
  clear hL h9 lx li hw h ok hL0 hLf hb hnl
  go_enter Tryz.func54, Tryz.ntmps54
  go_wp2_with fail
  refine N.out.mono ?_
  rintro e w1 ⟨rfl, h1⟩
  have W := hid (wayT (x : Int) h1.is (by show s.steps + 1 ≤ _; omega))
  have Q1 := hid h1.kept
  clear h1 N
  go_wp2_with fail
  refine W.out.mono ?_
  rintro e w2 ⟨v, rfl, o2, a2, hl2, q2⟩
  rw [way_tk, HW.out] at o2 a2
  have O2 := hid (show Own w2 w.heap.size v (U.map fun (c : Nat) => (c : Int)) from o2.base Q1.out.size)
  have A2 := hid a2
  have Q2 := hid (Q1.out.trans' q2)
  have hUl : (U.map fun (c : Nat) => (c : Int)).length = U.length := by simp
  rw [hUl] at A2
  clear o2 a2 hl2 q2 W Q1 hUl
  obtain ⟨g, gc, rfl⟩ := own_form O2.out
  obtain ⟨x0, hx0, _⟩ := HL.out.cur
  obtain ⟨bk, rfl, _, hb1, hb2, hcs⟩ := up_cell O2.out hx0
  have CS := hid hcs
  have NF : ¬ F bk := fun hF => by have := HFL.out _ hF; omega
  have hUp : 0 < U.length := (List.getElem?_eq_some_iff.1 hx0).1
  obtain ⟨z, hz⟩ : ∃ z, U.length = z + 1 := ⟨U.length - 1, by omega⟩
  have hlast : U[z]? = some b.n := by
    have := HL.out.last
    rw [List.getLast?_eq_getElem?, hz, Nat.add_sub_cancel] at this
    exact this
  have HZ := hid hlast
  have c0 : w2.cell? ⟨bk, z, none⟩ = some (.int .i64 (b.n : Int)) := CS.out _ _ hlast
  have j0 : (U.length : Int) - 1 = (z : Int) := by omega
  have hwz : IntKind.i64.wrap (z : Int) = (z : Int) := IntWalk.i64_in _ (by omega)
  have hz16 : z < U.length := by omega
  have hUz := hid hz
  have CO2 := hid (CO.out w2 (HL0.out.kept Q2.out HLF.out))
  have ne0 : ((U.length : Int) == 0) = false := beq_eq_false_iff_ne.2 (by omega)
  rw [show (U.map fun (c : Nat) => (c : Int)).length = U.length by simp]
  clear hx0 hcs hlast hz CO
  go_wp2_with fail
  refine CO2.out.mono ?_
  rintro e w3 ⟨rfl, h3⟩
  have h3 := h3.symm
  subst h3
  clear CO2
  go_wp2_with fail
  go_loopw [8] (fun av wr => ∃ (k a : Nat) (b' : Bn) (s' : St), av = .int .i64 (a : Int) ∧ Hid (a = k + 1) ∧ k < 16 ∧ k < U.length ∧ Hid (Lv s s' i b b' U k) ∧ Hid (Ex F w2 wr pa pm s') ∧ Hid (s.steps ≤ s'.steps ∧ s'.steps ≤ s.steps + 17 + 6 * k)) (fun av _ => 17 - (intOf av).toNat)
  case atStart => exact ⟨0, 1, b, _, rfl, hid rfl, by omega, hUp, hid ((HL.out.tk 1).tk U.length), hid (Ex.start A2.out), hid ⟨by show s.steps ≤ s.steps + 1 + U.length; omega, by show s.steps + 1 + U.length ≤ _; omega⟩⟩
  case round =>
    clear HL A2 c0
    obtain ⟨k, a, b', s', rfl, ha, hk16, hkU, hL, hE, hST⟩ := hrel
    by_cases hlt : a < U.length
    · have hlt' : (a : Int) < (U.length : Int) := by omega
      have hx : U[k]? = some U[k] := List.getElem?_eq_getElem hkU
      have hy : U[a]? = some U[a] := List.getElem?_eq_getElem hlt
      generalize U[k] = xk at hx
      generalize U[a] = yk at hy
      have c1 : wr.cell? ⟨bk, k, none⟩ = some (.int .i64 (xk : Int)) := (hE.out.kept.cell (p := ⟨bk, k, none⟩) hb2 NF).trans (CS.out _ _ hx)
      have c2 : wr.cell? ⟨bk, a, none⟩ = some (.int .i64 (yk : Int)) := (hE.out.kept.cell (p := ⟨bk, a, none⟩) hb2 NF).trans (CS.out _ _ hy)
      obtain ⟨p, st1, st2, st3, st4, st5, st6, st7, st8, st9, st10, st11⟩ := hL.out.step hx (by rw [← ha.out]; exact hy)
      have j1 : (a : Int) - 1 = (k : Int) := by have := ha.out; omega
      have hw1 : IntKind.i64.wrap (k : Int) = (k : Int) := IntWalk.i64_in _ (by omega)
      have HX := hid hx
      have HY := hid hy
      have NX := hid (show Lv s (swB s' xk yk i p) i b (renB (tsp i p) b') U (k + 1) from st11 0)
      have SW := hid (fun (wx : World) (hx : Ex F w2 wx pa pm s') => swapT (s := s') xk yk i p st3 st4 st5 st6 st7 st8 st9 hL.out.sm.ok hx (by have := hST.out.2; omega))
      have hb2' : bk < wr.heap.size := Nat.lt_of_lt_of_le hb2 hE.out.kept.size
      have ha16 : a ≤ 16 := by have := ha.out; omega
      clear hx hy st1 st2 st3 st4 st5 st6 st7 st8 st9 st10 st11
      go_wp2_with fail
      go_region_held3 (fun w' => w'.cell? ⟨bk, k, none⟩ = some (.int .i64 (xk : Int)) ∧ w'.cell? ⟨bk, a, none⟩ = some (.int .i64 (yk : Int))) (first | exact ⟨c1, c2⟩ | (simp [go_sem]; exact ⟨c1, c2⟩))
        (first
          | (go_at_call 74; (refine (SW.out _ (by first | exact hE.out | exact hE.out.drew | exact hE.out.drewN _)).mono ?_); rintro e w4 ⟨rfl, h4⟩; have hsz4 := h4.kept.size; replace c1 := (h4.kept.cell (p := ⟨bk, k, none⟩) hb2 NF).trans (CS.out _ _ HX.out); replace c2 := (h4.kept.cell (p := ⟨bk, a, none⟩) hb2 NF).trans (CS.out _ _ HY.out); have H4 := hid h4; clear h4))
      go_wp2
      go_roundw
      case rel => exact ⟨k + 1, a + 1, renB (tsp i p) b', _, by go_num, hid (by rw [ha.out]), by omega, by have := ha.out; omega, NX, H4, hid ⟨by rw [swB_steps]; have := hST.out.1; omega, by rw [swB_steps]; have := hST.out.2; omega⟩⟩
      case measure => simp [intOf]; omega
    · have hd : decide (a < U.length) = false := by simp; omega
      have TP := hL.out.top (by have := ha.out; omega)
      have HG := hid TP.1
      have c0 : wr.cell? ⟨bk, z, none⟩ = some (.int .i64 (b.n : Int)) := (hE.out.kept.cell (p := ⟨bk, z, none⟩) hb2 NF).trans (CS.out _ _ HZ.out)
      clear TP hlt
      go_wp2
      go_ret
      exact ⟨rfl, b', s', k, hL.out, HG.out, ⟨hE.out.is, Q2.out.trans' hE.out.kept⟩, hST.out.1, by have := hST.out.2; omega⟩
end
end Go.Proofs.YteibfnclillnnabGreat

/- The walk of nodes: all nodes of a heap. -/
namespace Go.Proofs.YteibfnclillnnabGreat
open Go.ChangeShapes Go.WideShapes Go.ChangeAt Go.RowKit
open Tr

/-- a tree's nodes -/
def bnod (b : Bn) : List Nat := b.n :: b.k.nodes
theorem kids_nod : ∀ t : Tr, (kids t).flatMap bnod = t.nodes
  | lf => rfl
  | nd n i k r => by simp [kids, kids_nod r, bnod, nodes]
theorem kids_vn {L : Nat → Bool} {f : Nat → Nat → Int} : ∀ {up : Int} {t : Tr}, Vw L f up t → ∀ b ∈ kids t, Vn L f b
  | _, lf, _, b, hb => by simp [kids] at hb
  | up, nd n i k r, ⟨⟨h1, h2, _, h4, _, _, h7, h8, h9⟩, hk, hr⟩, b, hb => by
    simp only [kids, List.mem_cons] at hb
    rcases hb with rfl | hb
    · exact ⟨h1, h2, h4, h7, h8, h9, hk⟩
    · exact kids_vn hr b hb
theorem kids_kd : ∀ {t : Tr}, Kd t → ∀ b ∈ kids t, Kd b.k ∧ b.rk ≤ rkf t
  | lf, _, b, hb => by simp [kids] at hb
  | nd n i k r, h, b, hb => by
    obtain ⟨q1, q2, q3⟩ := rkf_kid h
    simp only [kids, List.mem_cons] at hb
    rcases hb with rfl | hb
    · refine ⟨h.2.1, ?_⟩
      show rkf k ≤ _
      rcases q1 with q1 | q1
      · rw [leaf_lf q1]; exact Nat.zero_le _
      · omega
    · have := kids_kd h.2.2 b hb
      exact ⟨this.1, by omega⟩
/-- trees that are yet to be gone through -/
structure Fo (s : St) (b : Bn) : Prop where
  vn : Vn (LS s) (hasS s) b
  kd : Kd b.k
  rk : b.rk < 16
theorem Fo.kids {s : St} {b : Bn} (h : Fo s b) : ∀ c ∈ Go.Proofs.YteibfnclillnnabGreat.kids b.k, Fo s c := fun c hc => by
  have h1 := kids_kd h.kd c hc
  have h2 := h.rk
  exact ⟨kids_vn h.vn.kids c hc, h1.1, by simp only [Bn.rk] at h1 h2 ⊢; omega⟩
structure Bf (s : St) (ts P : List Bn) (a : Nat) : Prop where
  le : a ≤ P.length
  fo : ∀ b ∈ P, Fo s b
  all : ((P.take a).map Bn.n ++ (P.drop a).flatMap bnod).Perm (ts.flatMap bnod)
theorem Bf.len {s : St} {ts P : List Bn} {a : Nat} (h : Bf s ts P a) : P.length ≤ (ts.flatMap bnod).length := by
  have h1 := h.all.length_eq
  have h2 : ∀ q : List Bn, q.length ≤ (q.flatMap bnod).length := fun q => by
    induction q with
    | nil => exact Nat.le_refl _
    | cons b r ih => simp only [List.flatMap_cons, List.length_append, List.length_cons, bnod]; omega
  have h3 := h2 (P.drop a)
  have h4 := h.le
  rw [List.length_append, List.length_map, List.length_take] at h1
  rw [List.length_drop] at h3
  omega
theorem Bf.step {s : St} {ts P : List Bn} {a : Nat} {b : Bn} (h : Bf s ts P a) (hb : P[a]? = some b) : Bf s ts (P ++ Go.Proofs.YteibfnclillnnabGreat.kids b.k) (a + 1) := by
  have ha := (List.getElem?_eq_some_iff.1 hb).1
  have e : P[a] = b := (List.getElem?_eq_some_iff.1 hb).2
  refine ⟨by rw [List.length_append]; omega, fun c hc => ?_, ?_⟩
  · rcases List.mem_append.1 hc with hc | hc
    · exact h.fo c hc
    · exact (h.fo b (List.mem_of_getElem? hb)).kids c hc
  · have h1 := h.all
    rw [List.drop_eq_getElem_cons ha, e, List.flatMap_cons] at h1
    rw [List.take_append_of_le_length (by omega), List.drop_append_of_le_length (by omega), List.take_add_one, hb, List.flatMap_append, kids_nod]
    simp only [Option.toList_some, List.map_append, List.map_cons, List.map_nil, List.append_assoc, bnod, List.cons_append, List.nil_append] at h1 ⊢
    refine List.Perm.trans ?_ h1
    refine List.Perm.append_left _ (.cons _ ?_)
    exact List.perm_append_comm

theorem tops_mem {x : Int} : ∀ {t : Tr}, x ∈ tops t → ∃ c : Nat, x = (c : Int) ∧ c ∈ t.nodes
  | lf, h => by simp [tops] at h
  | nd n _ k r, h => by
    simp only [tops, List.mem_cons] at h
    rcases h with h | h
    · exact ⟨n, h, by simp [nodes]⟩
    · obtain ⟨c, e, hc⟩ := tops_mem h
      exact ⟨c, e, by simp [nodes, hc]⟩
theorem tops_nd : ∀ {t : Tr}, t.nodes.Nodup → (tops t).Nodup
  | lf, _ => by simp [tops]
  | nd n _ k r, h => by
    simp only [nodes, List.nodup_cons, List.mem_append, not_or] at h
    simp only [tops, List.nodup_cons]
    refine ⟨fun e => ?_, tops_nd (List.nodup_append.1 h.2).2.1⟩
    obtain ⟨c, e, hc⟩ := tops_mem e
    have : n = c := by omega
    exact h.1.2 (this ▸ hc)
theorem Bf.tops {s : St} {ts P : List Bn} {a : Nat} {b : Bn} (h : Bf s ts P a) (hb : P[a]? = some b) (hn : (ts.flatMap bnod).Nodup) : (Go.Proofs.YteibfnclillnnabGreat.tops b.k).Nodup := by
  have ha := (List.getElem?_eq_some_iff.1 hb).1
  have e : P[a] = b := (List.getElem?_eq_some_iff.1 hb).2
  have h1 := h.all.nodup_iff.2 hn
  rw [List.drop_eq_getElem_cons ha, e, List.flatMap_cons] at h1
  have h2 := (List.nodup_append.1 (List.nodup_append.1 h1).2.1).1
  simp only [bnod, List.nodup_cons] at h2
  exact tops_nd h2.2

section
variable {F : Nat → Prop} {w w' : World} {pa pm : Nat} {s : St}
set_option maxHeartbeats 2000000 in
theorem nodesT (ts : List Bn) (hv : ∀ b ∈ ts, Vb (LS s) (hasS s) b) (hk : ∀ b ∈ ts, Kd b.k) (hnn : (ts.flatMap bnod).Nodup) (hc : Chs (hasS s) 0 (-1) ts) (hnd : (ts.map Bn.n).Nodup) (ok : Ok s) (hl : ts.length ≤ 100) (hrk : ∀ b ∈ ts, b.rk < 16) (hz : (ts.flatMap bnod).length ≤ 1000) (h : IsA w F pa pm s) (hs : s.steps ≤ 99900000) :
    Calls Tryz.prog 57 #[.pointer (some ⟨pa, 0, none⟩), .int .i64 (headr ts)] w fun e w' =>
      ∃ v, e = .returned v ∧ ∃ P : List Bn, Own w' w.heap.size v (nds P) ∧ (P.map Bn.n).Perm (ts.flatMap bnod) ∧ ∃ k, k ≤ 3 + 3 * ts.length + 50 * (ts.flatMap bnod).length ∧ IsA w' F pa pm (tk s k) ∧ Kept F w w' := by
  have T := hid (treesT ts hv hc hnd ok hl (fun b hb => by have := hrk b hb; omega) h (by omega))
  have B0 : Hid (Bf s ts ts 0) := hid ⟨Nat.zero_le _, fun b hb => ⟨(hv b hb).vn, hk b hb, hrk b hb⟩, by simp⟩
  have HFL := hid h.lt
  have OK := hid ok
  have HNN := hid hnn
  obtain ⟨N, hN⟩ : ∃ N, N = (ts.flatMap bnod).length := ⟨_, rfl⟩
  rw [← hN] at hz ⊢
  have HN := hid hN
  clear hv hk hnn hc hnd ok hrk h hN
  generalize headr ts = r0 at T ⊢
  go_enter Tryz.func57, Tryz.ntmps57
  go_wp2_with fail
  refine T.out.mono ?_
  rintro e w1 ⟨v1, k1, rfl, o1, hk1, a1, q1⟩
  have O1 := hid o1
  have A1 := hid a1
  have Q1 := hid q1
  clear o1 a1 q1 T
  go_wp2_with fail
  go_loopw [5, 6] (fun lv av wr => ∃ (P : List Bn) (a k : Nat), av = .int .i64 (a : Int) ∧ a ≤ N ∧ Hid (Bf s ts P a) ∧ Hid (Own wr w.heap.size lv (nds P)) ∧ k ≤ k1 + 2 * a + 2 * P.length ∧ Hid (IsA wr F pa pm (tk s k)) ∧ Hid (Kept F w wr)) (fun _ av _ => N - (intOf av).toNat)
  case atStart => exact ⟨ts, 0, k1, rfl, Nat.zero_le _, B0, O1, by omega, A1, Q1⟩
  case round =>
    clear B0 O1 A1 Q1
    obtain ⟨P, a, k, rfl, haN, hB, ho, hk, hA, hK⟩ := hrel
    obtain ⟨la, lc, rfl⟩ := own_form ho.out
    have hnl : (nds P).length = P.length := by simp [nds]
    have hPN : P.length ≤ N := by have := hB.out.len; rw [← HN.out] at this; exact this
    rw [hnl]
    by_cases hlt : a < P.length
    · have hlt' : (a : Int) < (P.length : Int) := by omega
      have hx : P[a]? = some P[a] := List.getElem?_eq_getElem hlt
      generalize P[a] = b at hx
      have hxn : (nds P)[a]? = some (b.n : Int) := by simp [nds, hx]
      have hfo := hB.out.fo b (List.mem_of_getElem? hx)
      have NB := hid (hB.out.step hx)
      rcases (Own.lst ho.out) with ⟨a', c', e, y1, y2, y3, y4⟩
      rw [hnl] at e
      have e1 : la = a' ∧ lc = c' := by injection e; exact ⟨by assumption, by assumption⟩
      obtain ⟨e1, e2⟩ := e1
      subst e1 e2
      rcases y4 with y | ⟨bl, off, e2, hb, hc⟩
      · have h1 : (nds P).length = 0 := by rw [y]; rfl
        omega
      · subst e2
        have c1 : wr.cell? ⟨bl, off + a, none⟩ = some (.int .i64 (b.n : Int)) := hc _ _ hxn
        have CH := hid (childrenT (s := tk s k) b hfo.vn hfo.kd (hB.out.tops hx HNN.out) (Sm.tk OK.out k).ok (by have := hfo.rk; omega) hA.out (by show s.steps + k ≤ _; omega))
        have hrk := hfo.rk
        have hKL : (tops b.k).length = b.k.rank := tops_len _
        have hk30 : b.k.rank ≤ 30 := by have := (kd_len b.k hfo.kd).1; unfold Bn.rk at hrk; omega
        have hkl : (P ++ kids b.k).length = P.length + b.k.rank := by rw [List.length_append, kids_len]
        have HO := hid (show Own wr w.heap.size (.slice (some ⟨bl, off, none⟩) P.length lc) (nds P) by have := ho.out; rwa [hnl] at this)
        have NM := hid (show nds (P ++ kids b.k) = nds P ++ tops b.k by rw [← kids_tops]; simp [nds])
        have HKL := hid hKL
        have HNL := hid hnl
        clear hx hxn hc e y1 y2 y3 hfo ho hKL hnl
        go_wp2_with fail
        refine CH.out.mono ?_
        rintro e w2 ⟨v2, rfl, o2, a2, q2⟩
        have O2 := hid o2
        have A2 := hid a2
        have P2 := hid (show Own w2 w.heap.size (.slice (some ⟨bl, off, none⟩) P.length lc) (nds P) from own_kept HO.out q2 (fun i hi hF => by have := (World.ownsRow.lt HO.out i hi).1; have := HFL.out i hF; omega))
        have K2 := hid (hK.out.trans' q2)
        have hsz := K2.out.size
        have OA := hid (show w2.ownsRow w.heap.size 3 1 (.slice (some ⟨bl, off, none⟩) P.length lc) P.length (row int1 (nds P)) from by have := P2.out; unfold Own at this; rwa [HNL.out] at this)
        clear o2 a2 q2 CH HO
        go_wp2_with (at_builtin; refine wpList_append_lst rfl (.tmp 16) (.tmp 22) rfl w.heap.size _ _ P.length (row int1 (nds P)) (tops b.k) rfl rfl (by exact OA.out) (by exact O2.out.lst) (by rw [HKL.out]; omega) hsz ?_; intro v4 w4 o4 g4; have O4 := hid o4; have G4 := hid g4; clear o4 g4)
        have hrow : ∀ i, (Value.slice (some ⟨bl, off, none⟩) P.length lc).ownBlock = some i → w.heap.size ≤ i := fun i hi => (World.ownsRow.lt OA.out i hi).1
        have K4 := hid (K2.out.grown G4.out (fun i hi => Or.inr (hrow i hi)))
        have A4 := hid (A2.out.kept ((Kept.refl (fun i => w.heap.size ≤ i) w2).grown G4.out (fun i hi => Or.inl (hrow i hi))) (fun i hF hi => by have := HFL.out i hF; omega))
        have L4 := hid (show Own w4 w.heap.size v4 (nds (P ++ kids b.k)) from by
          have := O4.out
          unfold Own
          rw [NM.out, row_append, List.length_append, HNL.out]
          exact this)
        clear O4 G4 O2 A2 P2 K2 OA hrow NM
        go_wp2
        go_roundw
        case rel => exact ⟨P ++ kids b.k, a + 1, k + (2 + 2 * b.k.rank), by go_num, by omega, NB, L4, by omega, hid (by have := A4.out; rw [tk_tk] at this; exact this), K4⟩
        case measure => simp [intOf]; omega
    · have hge : a = P.length := by have := hB.out.le; omega
      have HP := hid (show (P.map Bn.n).Perm (ts.flatMap bnod) by
        have := hB.out.all
        rw [hge, List.take_length, List.drop_length] at this
        simpa using this)
      have HO := hid (show Own wr w.heap.size (.slice la P.length lc) (nds P) by have := ho.out; rwa [hnl] at this)
      have hn2 : ¬ (a : Int) < (P.length : Int) := by omega
      clear hge hnl ho
      go_wp2
      go_ret
      exact ⟨_, rfl, P, HO.out, HP.out, k, by omega, hA.out, hK.out⟩
end
end Go.Proofs.YteibfnclillnnabGreat

/- The walk of Meld. -/
namespace Go.Proofs.YteibfnclillnnabGreat
open Go.ChangeShapes Go.WideShapes Go.ChangeAt Go.RowKit
open Tr

theorem head_not : ∀ {ts us : List Bn}, (∀ a ∈ ts.flatMap Bn.cells, ∀ b ∈ us.flatMap Bn.cells, a ≠ b) → headr us ∉ nds ts := by
  intro ts us h hm
  obtain ⟨a, ha, e⟩ := List.mem_map.1 hm
  cases us with
  | nil => rw [headr_nil] at e; omega
  | cons b r =>
    rw [headr_cons] at e
    exact h a.n (List.mem_flatMap.2 ⟨a, ha, by simp [Bn.cells]⟩) b.n (List.mem_flatMap.2 ⟨b, by simp, by simp [Bn.cells]⟩) (by omega)

section
variable {F : Nat → Prop} {w w' : World} {pa pm : Nat} {s : St}
end
end Go.Proofs.YteibfnclillnnabGreat

/- The walk of Push, where there is no room. -/
namespace Go.Proofs.YteibfnclillnnabGreat
open Go.ChangeShapes Go.WideShapes Go.ChangeAt Go.RowKit
open Tr

section
variable {F : Nat → Prop} {w w' : World} {pa pm : Nat} {s : St}
set_option maxHeartbeats 1000000 in
theorem bpushT_no (ts : List Bn) (i : Nat) (ht : Bh (befF (hasS s)) s ts) (li : LS s i = true) (h9 : cellS s (i : Int) 9 = -1) (hx : ¬ 0 ≤ nextS s) (ok : Ok s) (h : IsA w F pa pm s) (hs : s.steps ≤ 99970000) :
    Calls Tryz.prog 17 #[.pointer (some ⟨pa, 0, none⟩), .int .i64 (headr ts), .int .i64 (i : Int)] w fun e w' =>
      ∃ k : Nat, e = .returned (.tuple #[.int .i64 (headr ts), .bool false]) ∧ k ≤ 60 ∧ Aft F w w' pa pm (takeS (tk (tk s k) 1)) := by
  have T := hid (frontT ts (fun b hb => (ht.vb b hb).1) ht.ch ok (Ex.start h) (by omega))
  have HFL := hid h.lt
  have LI := hid li
  have H9 := hid h9
  have HX := hid hx
  clear ht li h9 hx ok h
  generalize headr ts = r0 at T ⊢
  generalize twn ts = r1 at T
  go_enter Tryz.func17, Tryz.ntmps17
  go_wp2_with fail
  refine T.out.mono ?_
  rintro e w1 ⟨k, rfl, hk1, a1⟩
  have q1 := a1.kept
  replace a1 := a1.is
  have NN := hid (nnewT_no (s := tk s k) (i : Int) LI.out H9.out (by have := HX.out; show ¬ 0 ≤ nextS s; omega) (Aft.start a1) (by show s.steps + k ≤ _; omega))
  have Q1 := hid q1
  clear a1 q1 T
  go_wp2_with fail
  refine NN.out.mono ?_
  rintro e w2 ⟨rfl, h2⟩
  have A2 := hid (show Aft F w w2 pa pm (takeS (tk (tk s k) 1)) from
    ⟨h2.is.widen (fun j hj => hj.imp id fun q => ⟨Nat.le_trans Q1.out.size q.1, q.2⟩) (Grow.lt HFL.out (Nat.le_trans Q1.out.size h2.kept.size)), Q1.out.trans' h2.kept, HFL.out⟩)
  clear h2 NN Q1
  go_wp2
  go_ret2
  exact ⟨k, rfl, by omega, A2.out⟩
end
end Go.Proofs.YteibfnclillnnabGreat

/- Two heaps and what they hold: how New, Push, Pop, Meld, Give turn them. -/
namespace Go.Proofs.YteibfnclillnnabGreat
open Go.ChangeShapes Go.WideShapes Go.ChangeAt Go.RowKit
open Tr

def cel (t : List Bn) : List Nat := t.flatMap Bn.cells
def its (t : List Bn) : List Nat := t.flatMap Bn.items
theorem its_sub {t : List Bn} {c : Nat} (h : c ∈ its t) : c ∈ cel t := by
  obtain ⟨b, hb, hc⟩ := List.mem_flatMap.1 h
  exact List.mem_flatMap.2 ⟨b, hb, bn_items hc⟩
theorem Hu.like {lt lt' : Nat → Nat → Bool} : ∀ {u : Nat} {t : Tr}, Hu lt u t → (∀ a ∈ u :: t.items, ∀ b ∈ u :: t.items, lt' a b = lt a b) → Hu lt' u t
  | _, lf, _, _ => trivial
  | u, nd n j k r, h, hf => by
    refine ⟨by rw [hf j (by simp [items]) u (by simp)]; exact h.1, Hu.like h.2.1 fun a ha b hb => hf a ?_ b ?_, Hu.like h.2.2 fun a ha b hb => hf a ?_ b ?_⟩
    · simp only [List.mem_cons, items, List.mem_append] at ha ⊢; rcases ha with ha | ha; exact Or.inr (Or.inl ha); exact Or.inr (Or.inr (Or.inl ha))
    · simp only [List.mem_cons, items, List.mem_append] at hb ⊢; rcases hb with hb | hb; exact Or.inr (Or.inl hb); exact Or.inr (Or.inr (Or.inl hb))
    · simp only [List.mem_cons, items, List.mem_append] at ha ⊢; rcases ha with ha | ha; exact Or.inl ha; exact Or.inr (Or.inr (Or.inr ha))
    · simp only [List.mem_cons, items, List.mem_append] at hb ⊢; rcases hb with hb | hb; exact Or.inl hb; exact Or.inr (Or.inr (Or.inr hb))
theorem befF_like {f f' : Nat → Nat → Int} {a b : Nat} (h1 : f' a 7 = f a 7) (h2 : f' a 8 = f a 8) (h3 : f' b 7 = f b 7) (h4 : f' b 8 = f b 8) : befF f' a b = befF f a b := by
  unfold befF; rw [h1, h2, h3, h4]
/-- a heap that is left alone -/
theorem Bh.keep {s s' : St} {t : List Bn} (h : Bh (befF (hasS s)) s t) (hf : ∀ c ∈ cel t, LS s' c = LS s c ∧ ∀ j, hasS s' c j = hasS s c j) : Bh (befF (hasS s')) s' t := by
  have hc : ∀ b ∈ t, ∀ c ∈ b.cells, c ∈ cel t := fun b hb c hc => List.mem_flatMap.2 ⟨b, hb, hc⟩
  refine ⟨fun b hb => ⟨(h.vb b hb).1.like (fun c q => ⟨(hf c (hc b hb c q)).1, fun j _ => (hf c (hc b hb c q)).2 j⟩) ?_, (h.vb b hb).2.1, Hu.like (h.vb b hb).2.2 fun a ha c hc2 => ?_⟩, h.ch.like fun b hb => (hf b.n (hc b hb b.n (by simp [Bn.cells]))).2 3, h.nd, h.rk, h.ln⟩
  · have := flat_nodup h.nd b hb
    simp only [Bn.cells, List.nodup_cons, List.mem_cons, not_or] at this
    exact this.1.2
  · have e : ∀ x ∈ b.i :: b.k.items, ∀ j, hasS s' x j = hasS s x j := fun x hx => (hf x (hc b hb x (bn_items hx))).2
    exact befF_like (e a ha 7) (e a ha 8) (e c hc2 7) (e c hc2 8)
theorem Bh.live {lt : Nat → Nat → Bool} {s : St} {t : List Bn} (h : Bh lt s t) : ∀ c ∈ cel t, LS s c = true := fun c hc => by
  obtain ⟨b, hb, q⟩ := List.mem_flatMap.1 hc
  exact (h.vb b hb).1.live c q
theorem Bh.nil (lt : Nat → Nat → Bool) (s : St) : Bh lt s [] := ⟨fun b hb => (by cases hb), trivial, .nil, fun b hb => (by cases hb), Nat.zero_le _⟩

/-- a heap, and the list of what it holds -/
structure Hh (s : St) (t : List Bn) (L : List (Nat × Int × Int)) : Prop where
  gd : Bh (befF (hasS s)) s t
  pm : (L.map (fun x => x.1)).Perm (its t)
  en : ∀ x ∈ L, hasS s x.1 7 = x.2.1 ∧ hasS s x.1 8 = x.2.2
/-- two heaps; no cell is lost -/
structure Inv (s : St) (t u : List Bn) (L M : List (Nat × Int × Int)) : Prop where
  ok : Ok s
  a : Hh s t L
  b : Hh s u M
  dj : ∀ c ∈ cel t, c ∉ cel u
  num : cnt s.pl = 2 * (L.length + M.length)
/-- two heaps, and an item that is in none -/
structure Inv1 (s : St) (t u : List Bn) (L M : List (Nat × Int × Int)) (i : Nat) : Prop where
  ok : Ok s
  a : Hh s t L
  b : Hh s u M
  dj : ∀ c ∈ cel t, c ∉ cel u
  num : cnt s.pl = 2 * (L.length + M.length) + 1
  live : LS s i = true
  out : i ∉ cel t ∧ i ∉ cel u
  free : hasS s i 9 = -1

section
variable {s s' : St} {t u : List Bn} {L M : List (Nat × Int × Int)} {i : Nat}
theorem Hh.nil (s : St) : Hh s [] [] := ⟨Bh.nil _ s, .nil, fun x h => by cases h⟩
theorem Hh.len (h : Hh s t L) : (its t).length = L.length := by rw [← h.pm.length_eq, List.length_map]
theorem Hh.mem (h : Hh s t L) {x : Nat × Int × Int} (hx : x ∈ L) : x.1 ∈ its t := h.pm.mem_iff.1 (List.mem_map.2 ⟨x, hx, rfl⟩)
theorem Hh.none (h : Hh s t L) : t = [] ↔ L = [] := by
  have := h.len
  constructor
  · intro e; subst e; exact List.eq_nil_of_length_eq_zero this.symm
  · intro e; subst e
    cases t with
    | nil => rfl
    | cons b r => simp [its, Bn.items] at this
theorem Hh.keep (h : Hh s t L) (hf : ∀ c ∈ cel t, LS s' c = LS s c ∧ ∀ j, hasS s' c j = hasS s c j) : Hh s' t L :=
  ⟨h.gd.keep hf, h.pm, fun x hx => by
    have := hf x.1 (its_sub (h.mem hx))
    rw [this.2, this.2]; exact h.en x hx⟩
theorem Inv.swap (h : Inv s t u L M) : Inv s u t M L := ⟨h.ok, h.b, h.a, fun c hc q => h.dj c q hc, by have := h.num; omega⟩
theorem Inv1.swap (h : Inv1 s t u L M i) : Inv1 s u t M L i := ⟨h.ok, h.b, h.a, fun c hc q => h.dj c q hc, by have := h.num; omega, h.live, h.out.symm, h.free⟩
theorem Inv.tk (h : Inv s t u L M) (k : Nat) : Inv (tk s k) t u L M := ⟨(Sm.tk h.ok k).ok, h.a.keep fun _ _ => ⟨rfl, fun _ => rfl⟩, h.b.keep fun _ _ => ⟨rfl, fun _ => rfl⟩, h.dj, h.num⟩
theorem Inv1.tk (h : Inv1 s t u L M i) (k : Nat) : Inv1 (tk s k) t u L M i := ⟨(Sm.tk h.ok k).ok, h.a.keep fun _ _ => ⟨rfl, fun _ => rfl⟩, h.b.keep fun _ _ => ⟨rfl, fun _ => rfl⟩, h.dj, h.num, h.live, h.out, h.free⟩
theorem Inv.start (n : Int) : Inv (st0 n) [] [] [] [] := ⟨Ok.start n, Hh.nil _, Hh.nil _, fun c hc => by simp [cel] at hc, rfl⟩

/-- New -/
theorem new_inv (h : Inv s t u L M) (key serial : Int) (hx : 0 ≤ nextS s) : ∃ i : Nat, nextS s = (i : Int) ∧ Inv1 (newS s key serial) t u L M i ∧ hasS (newS s key serial) i 7 = key ∧ hasS (newS s key serial) i 8 = serial := by
  obtain ⟨n, e, h1, h2, h3, h4⟩ := take_view h.ok hx
  refine ⟨n, e, ?_⟩
  unfold newS
  rw [if_pos hx, e]
  have ok1 := h.ok.take
  have l1 : LS (takeS s) n = true := by rw [h2, if_pos rfl]
  have m1 := Sm.set ok1 (n : Int) 7 key
  have v1 : hasS (setS (takeS s) (n : Int) 7 key) = put (hasS (takeS s)) n 7 key := set_has (j := 7) l1 (by decide)
  have l2 : LS (setS (takeS s) (n : Int) 7 key) n = true := by rw [m1.ls]; exact l1
  have m2 := m1.trans (Sm.set m1.ok (n : Int) 8 serial)
  have v2 : hasS (setS (setS (takeS s) (n : Int) 7 key) (n : Int) 8 serial) = put (put (hasS (takeS s)) n 7 key) n 8 serial := by rw [← v1]; exact set_has (j := 8) l2 (by decide)
  have hne : ∀ {lt : Nat → Nat → Bool} (t : List Bn), Bh lt s t → ∀ c ∈ cel t, c ≠ n := fun t g c hc q => by subst q; rw [g.live c hc] at h1; cases h1
  have hk : ∀ c, c ≠ n → LS (setS (setS (takeS s) (n : Int) 7 key) (n : Int) 8 serial) c = LS s c ∧ ∀ j, hasS (setS (setS (takeS s) (n : Int) 7 key) (n : Int) 8 serial) c j = hasS s c j := fun c hc => ⟨by rw [m2.ls, h2, if_neg hc], fun j => by rw [v2, put_ne hc, put_ne hc, h3, if_neg hc]⟩
  refine ⟨⟨m2.ok, h.a.keep fun c hc => hk c (hne t h.a.gd c hc), h.b.keep fun c hc => hk c (hne u h.b.gd c hc), h.dj, ?_, ?_, ⟨fun q => hne t h.a.gd n q rfl, fun q => hne u h.b.gd n q rfl⟩, ?_⟩, ?_, ?_⟩
  · rw [cnt_sm ok1 m2, h4, h.num]
  · rw [m2.ls]; exact l1
  · rw [v2, put_nj (by decide), put_nj (by decide), h3, if_pos rfl]; rfl
  · rw [v2, put_nj (by decide), put_at]
  · rw [v2, put_at]
/-- the item is given back -/
theorem give_inv (h : Inv1 s t u L M i) : Inv (giveS s (i : Int)) t u L M := by
  have e1 := give_ls h.live
  have e2 := give_has h.live
  obtain ⟨e3, e4⟩ := give_back h.live
  have hk : ∀ c, c ≠ i → LS (giveS s (i : Int)) c = LS s c ∧ ∀ j, hasS (giveS s (i : Int)) c j = hasS s c j := fun c hc => ⟨by rw [e1]; simp only; rw [if_neg hc], fun j => by rw [e2]⟩
  refine ⟨h.ok.give, h.a.keep fun c hc => hk c fun q => h.out.1 (q ▸ hc), h.b.keep fun c hc => hk c fun q => h.out.2 (q ▸ hc), h.dj, ?_⟩
  have := h.ok.count
  have q := h.ok.give (c := (i : Int)) |>.count
  rw [e3, e4] at q
  simp at q
  have := h.num
  omega
/-- Take at no room: nothing but a step -/
theorem Inv1.full (h : Inv1 s t u L M i) (hx : ¬ 0 ≤ nextS s) : Inv1 (takeS s) t u L M i := by
  rw [take_full hx]
  exact h.tk 1

/-- a heap's tree is taken out -/
theorem rmd_inv {s2 : St} {t2 vs : List Bn} {b : Bn} {l1 l2 : List (Nat × Int × Int)} {x : Nat × Int × Int} (h : Inv s t u L M) (hls : LS s2 = LS s) (hcnt : cnt s2.pl = cnt s.pl) (hkey : ∀ c, hasS s2 c 7 = hasS s c 7 ∧ hasS s2 c 8 = hasS s c 8) (hoth : ∀ c, c ∉ cel t → ∀ j, hasS s2 c j = hasS s c j)
    (pc : (cel t2).Perm (cel t)) (pi : (its t2).Perm (its t)) (r : Rmd s2 s' vs b t2) (hL : L = l1 ++ x :: l2) (hx : x.1 = b.i) : Inv1 s' vs u (l1 ++ l2) M x.1 := by
  have key : ∀ c, hasS s' c 7 = hasS s c 7 ∧ hasS s' c 8 = hasS s c 8 := fun c => ⟨(r.key c).1.trans (hkey c).1, (r.key c).2.trans (hkey c).2⟩
  have e : befF (hasS s') = befF (hasS s2) := by funext a c; exact bef_key r.key a c
  have p2 : (cel t).Perm (b.n :: b.i :: cel vs) := pc.symm.trans r.cells
  have nd2 := p2.nodup_iff.1 h.a.gd.nd
  simp only [List.nodup_cons, List.mem_cons, not_or] at nd2
  obtain ⟨⟨n1, n2⟩, n3, n4⟩ := nd2
  have hn : b.n ∈ cel t := p2.mem_iff.2 (by simp)
  have hi : b.i ∈ cel t := p2.mem_iff.2 (by simp)
  have hv : ∀ c ∈ cel vs, c ∈ cel t := fun c hc => p2.mem_iff.2 (by simp [hc])
  have hpm := h.a.pm.trans (pi.symm.trans r.items)
  rw [hL, List.map_append, List.map_cons, hx] at hpm
  have hpm' : ((l1 ++ l2).map (fun x => x.1)).Perm (its vs) := by
    rw [List.map_append]
    exact List.Perm.cons_inv ((List.perm_middle (a := b.i) (l₁ := l1.map (fun x => x.1)) (l₂ := l2.map (fun x => x.1))).symm.trans hpm)
  refine ⟨r.ok, ⟨by rw [e]; exact r.bh, hpm', fun y hy => ?_⟩, h.b.keep fun c hc => ⟨?_, fun j => ?_⟩, fun c hc q => h.dj c (hv c hc) q, ?_, ?_, ⟨?_, ?_⟩, ?_⟩
  · rw [(key y.1).1, (key y.1).2]
    exact h.a.en y (by rw [hL]; rw [List.mem_append] at hy; simp; rcases hy with hy | hy; exact Or.inl hy; exact Or.inr (Or.inr hy))
  · rw [r.ls, if_neg (fun q : c = b.n => h.dj b.n hn (q ▸ hc)), hls]
  · have hct : c ∉ cel t := fun q => h.dj c q hc
    rw [r.oth c (fun q => hct (pc.mem_iff.1 q)), hoth c hct]
  · have c3 := h.num
    have c4 := r.num
    rw [hcnt] at c4
    rw [hL] at c3
    simp at c3 ⊢
    omega
  · rw [hx, r.ls, if_neg (fun q => n1 q.symm), hls]; exact h.a.gd.live _ hi
  · rw [hx]; exact n3
  · rw [hx]; exact h.dj _ hi
  · rw [hx]; exact r.free
/-- Pop -/
theorem pop_inv {vs : List Bn} {b : Bn} {l1 l2 : List (Nat × Int × Int)} {x : Nat × Int × Int} (h : Inv s t u L M) (r : Rmd s s' vs b t) (hL : L = l1 ++ x :: l2) (hx : x.1 = b.i) : Inv1 s' vs u (l1 ++ l2) M x.1 :=
  rmd_inv h rfl rfl (fun _ => ⟨rfl, rfl⟩) (fun _ _ _ => rfl) (.refl _) (.refl _) r hL hx
/-- Meld -/
theorem meld_inv {vs : List Bn} (h : Inv s t u L M) (r : Left s s' vs ((t ++ u).flatMap Bn.cells) ((t ++ u).flatMap Bn.items)) : Inv s' vs [] (L ++ M) [] := by
  have e : befF (hasS s') = befF (hasS s) := by funext a c; exact bef_key r.key a c
  refine ⟨r.sm.ok, ⟨by rw [e]; exact r.bh, ?_, fun x hx => ?_⟩, Hh.nil _, fun c _ z => by simp [cel] at z, ?_⟩
  · rw [List.map_append]
    refine (h.a.pm.append h.b.pm).trans ?_
    have := r.items
    rw [List.flatMap_append] at this
    exact this.symm
  · rw [(r.key x.1).1, (r.key x.1).2]
    rw [List.mem_append] at hx
    exact hx.elim (h.a.en x) (h.b.en x)
  · rw [cnt_sm h.ok r.sm, h.num]; simp
/-- Push -/
theorem push_inv {vs : List Bn} {n k : Nat} (h : Inv1 s t u L M i) (hx : 0 ≤ nextS s) (hn : nextS s = (n : Int)) (r : Left (puB (Go.Proofs.YteibfnclillnnabGreat.tk s k) (i : Int)) s' vs ((t ++ [(⟨n, i, lf⟩ : Bn)]).flatMap Bn.cells) ((t ++ [(⟨n, i, lf⟩ : Bn)]).flatMap Bn.items)) :
    Inv s' vs u (L ++ [(i, hasS s i 7, hasS s i 8)]) M := by
  obtain ⟨n', e1, u2, u3, u4, u5, u6, u7, u8, u9, u10, u11, u12, u13⟩ := bpu_view (s := Go.Proofs.YteibfnclillnnabGreat.tk s k) (ts := t) (i := i) (befF (hasS s)) (Sm.tk h.ok k).ok h.live h.out.1 (fun b hb => (h.a.gd.vb b hb).1) h.a.gd.nd hx
  have en : n' = n := by have e2 : nextS s = (n' : Int) := e1; rw [hn] at e2; omega
  subst en
  have hnu : n' ∉ cel u := fun q => by have := h.b.gd.live n' q; rw [show LS (Go.Proofs.YteibfnclillnnabGreat.tk s k) n' = LS s n' from rfl, this] at u2; cases u2
  have e : befF (hasS s') = befF (hasS (puB (Go.Proofs.YteibfnclillnnabGreat.tk s k) (i : Int))) := by funext a c; exact bef_key r.key a c
  have pc : (cel vs).Perm (cel t ++ [n', i]) := by have := r.cells; rw [List.flatMap_append] at this; simpa [Bn.cells, Tr.cells, cel] using this
  have pi : (its vs).Perm (its t ++ [i]) := by have := r.items; rw [List.flatMap_append] at this; simpa [Bn.items, Tr.items, its] using this
  have kk : ∀ c, c ≠ n' → hasS s' c 7 = hasS s c 7 ∧ hasS s' c 8 = hasS s c 8 := fun c hc => ⟨(r.key c).1.trans (u13 c 7 hc (Or.inr (by decide))), (r.key c).2.trans (u13 c 8 hc (Or.inr (by decide)))⟩
  refine ⟨r.sm.ok, ⟨by rw [e]; exact r.bh, ?_, fun x hx' => ?_⟩, h.b.keep fun c hc => ⟨?_, fun j => ?_⟩, fun c hc z => ?_, ?_⟩
  · rw [List.map_append]
    exact (h.a.pm.append_right _).trans pi.symm
  · rw [List.mem_append] at hx'
    rcases hx' with hx' | hx'
    · have hne : x.1 ≠ n' := fun q => u6 (q ▸ its_sub (h.a.mem hx'))
      rw [(kk x.1 hne).1, (kk x.1 hne).2]; exact h.a.en x hx'
    · simp at hx'; subst hx'
      exact ⟨(kk i (fun q => u5 q.symm)).1, (kk i (fun q => u5 q.symm)).2⟩
  · rw [r.sm.ls, u12 c (fun q => hnu (q ▸ hc))]; rfl
  · have hcn : c ≠ n' := fun q => hnu (q ▸ hc)
    have hci : c ≠ i := fun q => h.out.2 (q ▸ hc)
    rw [r.oth c (fun q => by
      rw [List.flatMap_append, List.mem_append] at q
      rcases q with q | q
      · exact h.dj c q hc
      · simp [Bn.cells, Tr.cells] at q
        rcases q with q | q
        · exact hcn q
        · exact hci q), u13 c j hcn (Or.inl hci)]
    rfl
  · have := pc.mem_iff.1 hc
    rw [List.mem_append] at this
    rcases this with q | q
    · exact h.dj c q z
    · simp at q
      rcases q with rfl | rfl
      · exact hnu z
      · exact h.out.2 z
  · rw [cnt_sm u7 r.sm, u11]
    show cnt s.pl + 1 = _
    rw [h.num]; simp; omega
end
end Go.Proofs.YteibfnclillnnabGreat
