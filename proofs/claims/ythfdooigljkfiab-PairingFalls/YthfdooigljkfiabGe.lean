/- Several texts in one. -/
import Derived.Test.YthfdooigljkfiabGd
import Derived.Test.YthfdooigljkfiabGc
import Derived.RangeFuncBox
import Derived.RangeFuncLeaves
import Derived.RangeFuncWrites
import Derived.RangeFuncCalls
import Derived.Shelf.Abstract
import Derived.OwnWalkIn
import Derived.TacticsInMore
import Derived.LoopNIn
import Derived.LoopIn
/- The walk of children. -/
namespace Go.Proofs.Ythfdooigljkfiab
open Go.ChangeShapes Go.WideShapes Go.ChangeAt Go.RowKit
open Tr

def nd1 (l : List Nat) : List Int := l.map fun c : Nat => (c : Int)
theorem nd1_len (l : List Nat) : (nd1 l).length = l.length := by simp [nd1]
theorem nd1_at {l : List Nat} {j : Nat} {x : Nat} (h : l[j]? = some x) : (nd1 l)[j]? = some (x : Int) := by simp [nd1, h]
theorem nd1_app (l m : List Nat) : nd1 (l ++ m) = nd1 l ++ nd1 m := by simp [nd1]
def lenV : Value → Nat
  | .slice _ n _ => n
  | _ => 0
/-- the roots of a forest's trees -/
def rts : Tr → List Nat
  | lf => []
  | nd n _ _ r => n :: rts r
theorem rts_len : ∀ k : Tr, (rts k).length = (kidsL k).length
  | lf => rfl
  | nd n i k r => by simp [rts, kidsL, rts_len r]
theorem rts_sub : ∀ {k : Tr} {c : Nat}, c ∈ rts k → c ∈ k.nodes
  | lf, _, h => by cases h
  | nd n i k r, c, h => by
    simp only [rts, nodes, List.mem_cons, List.mem_append] at h ⊢
    exact h.imp id fun h => Or.inr (rts_sub h)
theorem rts_size : ∀ k : Tr, (rts k).length ≤ k.size
  | lf => Nat.le_refl _
  | nd n i k r => by have := rts_size r; simp only [rts, size, List.length_cons]; omega
theorem cell_root {s : St} {c j : Nat} {t : Tr} {up q : Int} (ok : Ok s) (lc : LS s c = true) (hj : j ≤ 9) (h : hasS s c j = t.root) (hv : Vp (LS s) (hasS s) up q t) : cellS s (c : Int) (j : Int) = t.root := by
  cases t with
  | lf => exact cell_neg lc hj h
  | nd n i k r => exact cell_nat ok lc hj h hv.1.1

section
variable {F : Nat → Prop} {w w' : World} {pa pm : Nat} {s : St}
set_option maxHeartbeats 2000000 in
theorem pchildT (n : Nat) (k : Tr) (hv : Vp (LS s) (hasS s) (n : Int) (-1) k) (hd : cellS s (n : Int) 1 = k.root) (ln : LS s n = true) (ok : Ok s) (hlen : (rts k).length ≤ 40000) (h : IsA w F pa pm s) (hs : s.steps ≤ 99700000) :
    Calls Try.prog 63 #[.pointer (some ⟨pa, 0, none⟩), .int .i64 (n : Int)] w fun e w' =>
      ∃ v, e = .returned v ∧ Own w' w.heap.size v (nd1 (rts k)) ∧ IsA w' F pa pm (tk s (1 + 3 * (rts k).length)) ∧ Kept F w w' := by
  have OK := hid ok
  have LN := hid ln
  have HFL := hid h.lt
  have C0 := hid (cellT (n : Int) 1 (Ex.start h) (by omega))
  rw [hd] at C0
  have HV := hid hv
  obtain ⟨N, hN⟩ : ∃ N, N = rts k := ⟨_, rfl⟩
  have HN := hid hN
  rw [← hN] at hlen ⊢
  obtain ⟨r0, hr0⟩ : ∃ r0, r0 = k.root := ⟨_, rfl⟩
  have HR0 := hid hr0
  rw [← hr0] at C0
  clear hv hd ln ok h hN hr0
  go_enter Try.func63, Try.ntmps63
  go_wp2_with fail
  refine C0.out.mono ?_
  rintro e w1 ⟨rfl, e1⟩
  have A1 := hid e1.is
  have K1 := hid e1.kept
  clear C0 e1
  go_wp2_with fail
  go_loopw [5, 6, 7] (fun lv av cv wr => ∃ (D : List Nat) (q : Int) (r : Tr), av = .int .i64 q ∧ cv = .int .i64 r.root ∧ Hid (Vp (LS s) (hasS s) (n : Int) q r) ∧ Hid (q = -1 ∨ ∃ m : Nat, q = (m : Int) ∧ LS s m = true) ∧ D.length + (rts r).length = N.length ∧ Hid (D ++ rts r = N) ∧ Hid (Own wr w.heap.size lv (nd1 D)) ∧ Hid (IsA wr F pa pm (tk s (1 + 3 * D.length))) ∧ Hid (Kept F w wr)) (fun lv _ _ _ => N.length + 1 - lenV lv)
  case atStart => exact ⟨[], -1, k, rfl, by rw [HR0.out], HV, hid (Or.inl rfl), by rw [HN.out]; simp, hid HN.out.symm, hid (Own.nil _ _), A1, K1⟩
  case round =>
    clear A1 K1 HV
    obtain ⟨D, q, r, rfl, rfl, hv, hq, hl, hD, ho, hA, hK⟩ := hrel
    obtain ⟨la, lc, rfl⟩ := own_form ho.out
    have hnl : (nd1 D).length = D.length := nd1_len D
    cases r with
    | lf =>
      have HO := hid (show Own wr w.heap.size (.slice la (nd1 D).length lc) (nd1 N) from by have := ho.out; have e := hD.out; rw [show rts lf = [] from rfl, List.append_nil] at e; rw [← e]; exact this)
      have HA := hid (show IsA wr F pa pm (tk s (1 + 3 * N.length)) from by have := hA.out; rwa [show D.length = N.length by simpa [rts] using hl] at this)
      rw [show (lf : Tr).root = -1 from rfl]
      clear hnl hl ho hA hD hv hq
      go_wp2
      go_ret
      exact ⟨_, rfl, HO.out, HA.out, hK.out⟩
    | nd c i kk rr =>
      rw [show (nd c i kk rr).root = (c : Int) from rfl]
      obtain ⟨⟨h1, h2, h3, h4, h5, h6, h7, h8⟩, hk', hr'⟩ := hv.out
      have e0 : cellS s (c : Int) 0 = (n : Int) := cell_nat (j := 0) OK.out h1 (by decide) h3 LN.out
      have e2 : cellS s (c : Int) 2 = q := by
        rcases hq.out with z | ⟨m, z, lm⟩
        · rw [z]; exact cell_neg (j := 2) h1 (by decide) (by rw [h5, z])
        · rw [z]; exact cell_nat (j := 2) OK.out h1 (by decide) (by rw [h5, z]) lm
      have e3 : cellS s (c : Int) 3 = rr.root := cell_root (j := 3) OK.out h1 (by decide) h6 hr'
      have hn1 : ((c : Int) != -1) = true := by simp
      have hne : ((n : Int) != (n : Int)) = false := by simp
      have hqe : (q != q) = false := by simp
      have HVR := hid hr'
      have LC := hid h1
      have hlr : (rts (nd c i kk rr)).length = (rts rr).length + 1 := by simp [rts]
      rw [hlr] at hl
      have C1 := hid (cellT (c : Int) 0 (Ex.start hA.out) (by show s.steps + _ ≤ _; omega))
      rw [show cellS (tk s (1 + 3 * D.length)) (c : Int) 0 = (n : Int) from e0] at C1
      have E2 := hid e2
      have E3 := hid e3
      have HDD := hid (show (D ++ [c]) ++ rts rr = N from by have := hD.out; rw [show rts (nd c i kk rr) = c :: rts rr from rfl] at this; simpa using this)
      clear h1 h2 h3 h4 h5 h6 h7 h8 hk' hr' e0 e2 e3 hv hq hlr hD
      go_wp2_with fail
      refine C1.out.mono ?_
      rintro e w2 ⟨rfl, e2⟩
      have A2 := hid e2.is
      have K2 := hid (hK.out.trans' e2.kept)
      have O2 := hid (show Own w2 w.heap.size (.slice la (nd1 D).length lc) (nd1 D) from own_kept ho.out e2.kept (fun i hi hF => by have := (World.ownsRow.lt ho.out i hi).1; have := HFL.out i hF; omega))
      have C2 := hid (cellT (c : Int) 2 (Ex.start A2.out) (by show s.steps + _ + 1 ≤ _; omega))
      rw [show cellS (tk (tk s (1 + 3 * D.length)) 1) (c : Int) 2 = q from E2.out] at C2
      clear e2 C1 ho hA hK
      go_wp2_with fail
      refine C2.out.mono ?_
      rintro e w3 ⟨rfl, e3⟩
      have A3 := hid e3.is
      have K3 := hid (K2.out.trans' e3.kept)
      have O3 := hid (show Own w3 w.heap.size (.slice la (nd1 D).length lc) (nd1 D) from own_kept O2.out e3.kept (fun i hi hF => by have := (World.ownsRow.lt O2.out i hi).1; have := HFL.out i hF; omega))
      clear e3 C2 A2 K2 O2
      have hsz := K3.out.size
      have L1 := hid (Own.lst (own_lit0 w3 w3.heap.size (Nat.le_refl _) [(c : Int)] (by simp) #[.int .i64 (c : Int)] rfl))
      have hsz1 : w.heap.size ≤ (w3.alloc (.cells #[.int .i64 (c : Int)] 3)).heap.size := by simp; omega
      have hDl : D.length + 1 ≤ 40000 := by omega
      have OA := hid (show w3.ownsRow w.heap.size 3 1 (.slice la D.length lc) D.length (row int1 (nd1 D)) from by have := O3.out; unfold Own at this; rwa [hnl] at this)
      have HLT := hid (fun i hi => World.ownsRow.lt OA.out i hi)
      go_wp2_with (at_builtin; refine wpList_append_lst rfl (.tmp 28) (.tmp 30) rfl w.heap.size _ _ D.length (row int1 (nd1 D)) [(c : Int)] rfl rfl (World.ownsRow.alloc OA.out _) L1.out (by simp; omega) hsz1 ?_; intro v4 w4 o4 g4; have O4 := hid o4; have G4 := hid g4; clear o4 g4)
      have hrow : ∀ i, (Value.slice la D.length lc).ownBlock = some i → w.heap.size ≤ i := fun i hi => (HLT.out i hi).1
      have K4 := hid ((K3.out.alloc (.cells #[.int .i64 (c : Int)] 3)).grown G4.out (fun i hi => Or.inr (hrow i hi)))
      have A4 := hid (A3.out.kept (((Kept.refl (fun i => w.heap.size ≤ i) w3).alloc (.cells #[.int .i64 (c : Int)] 3)).grown G4.out (fun i hi => Or.inl (hrow i hi))) (fun i hF hi => by have := HFL.out i hF; omega))
      have L4 := hid (show Own w4 w.heap.size v4 (nd1 (D ++ [c])) from by
        have := O4.out
        unfold Own
        rw [nd1_app, row_append, List.length_append, nd1_len]
        exact this)
      obtain ⟨va4, vc4, hv4⟩ := own_form L4.out
      have hlen4 : (nd1 (D ++ [c])).length = D.length + 1 := by simp [nd1]
      rw [hlen4] at hv4
      subst hv4
      have C3 := hid (cellT (c : Int) 3 (Ex.start A4.out) (by show s.steps + _ + 1 + 1 ≤ _; omega))
      rw [show cellS (tk (tk (tk s (1 + 3 * D.length)) 1) 1) (c : Int) 3 = rr.root from E3.out] at C3
      clear O4 G4 hrow O3 K3 A3 L1 hlen4
      go_wp2_with fail
      refine C3.out.mono ?_
      rintro e w5 ⟨rfl, e5⟩
      have A5 := hid (show IsA w5 F pa pm (tk s (1 + 3 * (D ++ [c]).length)) from by have := e5.is; rwa [tk_tk, tk_tk, tk_tk, show 1 + 3 * D.length + 1 + 1 + 1 = 1 + 3 * (D ++ [c]).length by simp; omega] at this)
      have K5 := hid (K4.out.trans' e5.kept)
      have O5 := hid (show Own w5 w.heap.size (.slice va4 (D.length + 1) vc4) (nd1 (D ++ [c])) from own_kept L4.out e5.kept (fun i hi hF => by have := (World.ownsRow.lt L4.out i hi).1; have := HFL.out i hF; omega))
      clear e5 C3 A4 K4 L4
      go_wp2
      go_roundw
      case rel => exact ⟨D ++ [c], (c : Int), rr, rfl, rfl, HVR, hid (Or.inr ⟨c, rfl, LC.out⟩), by simp; omega, HDD, O5, A5, K5⟩
      case measure => simp [lenV]; omega
end
end Go.Proofs.Ythfdooigljkfiab

/- Rows of heaps: what a link, alone do to them. -/
namespace Go.Proofs.Ythfdooigljkfiab
open Go.ChangeShapes Go.WideShapes Go.ChangeAt Go.RowKit
open Tr

/-- what a call leaves alone: all but links of the cells C -/
structure Tch (s s' : St) (C : List Nat) : Prop where
  sm : Sm s s'
  key : ∀ c j, 4 ≤ j → hasS s' c j = hasS s c j
  out : ∀ c, c ∉ C → ∀ j, hasS s' c j = hasS s c j
theorem befF_key {f f' : Nat → Nat → Int} (h : ∀ c j, 4 ≤ j → f' c j = f c j) : befF f' = befF f := by
  funext c d
  unfold befF
  rw [h c 7 (by decide), h c 8 (by decide), h d 7 (by decide), h d 8 (by decide)]
theorem Tch.refl {s : St} (ok : Ok s) (C : List Nat) : Tch s s C := ⟨Sm.refl ok, fun _ _ _ => rfl, fun _ _ _ => rfl⟩
theorem Tch.trans {s s' s'' : St} {C : List Nat} (h : Tch s s' C) (k : Tch s' s'' C) : Tch s s'' C :=
  ⟨h.sm.trans k.sm, fun c j hj => (k.key c j hj).trans (h.key c j hj), fun c hc j => (k.out c hc j).trans (h.out c hc j)⟩
theorem Tch.mono {s s' : St} {C D : List Nat} (h : Tch s s' C) (hD : ∀ c ∈ C, c ∈ D) : Tch s s' D := ⟨h.sm, h.key, fun c hc => h.out c fun z => hc (hD c z)⟩
theorem Tch.bef {s s' : St} {C : List Nat} (h : Tch s s' C) : befF (hasS s') = befF (hasS s) := befF_key h.key
theorem Tch.tk {s : St} (ok : Ok s) (k : Nat) (C : List Nat) : Tch s (tk s k) C := ⟨Sm.tk ok k, fun _ _ _ => rfl, fun _ _ _ => rfl⟩

/-- heaps, each by itself -/
structure Row (s : St) (l : List Tr) : Prop where
  vp : ∀ a ∈ l, Vp (LS s) (hasS s) (-1) (-1) a
  top : ∀ a ∈ l, Top a
  ho : ∀ a ∈ l, Ho (befF (hasS s)) a
  nod : (l.flatMap cells).Nodup
theorem Row.perm {s : St} {l l' : List Tr} (h : Row s l) (p : l.Perm l') : Row s l' :=
  ⟨fun a ha => h.vp a (p.mem_iff.2 ha), fun a ha => h.top a (p.mem_iff.2 ha), fun a ha => h.ho a (p.mem_iff.2 ha), (p.flatMap_right cells).nodup_iff.1 h.nod⟩
theorem Row.tk {s : St} {l : List Tr} (h : Row s l) (k : Nat) : Row (tk s k) l := ⟨h.vp, h.top, h.ho, h.nod⟩
theorem put_ne2 {f : Nat → Nat → Int} {c j a k : Nat} {v : Int} (h : ¬ (a = c ∧ k = j)) : put f c j v a k = f a k := by
  unfold put
  by_cases e : a = c
  · subst e
    rw [if_pos rfl]
    unfold upd
    rw [if_neg fun z => h ⟨rfl, z⟩]
  · rw [if_neg e]
theorem put_eq2 {f : Nat → Nat → Int} {c j : Nat} {v : Int} : put f c j v c j = v := by
  unfold put
  rw [if_pos rfl]
  unfold upd
  rw [if_pos rfl]

section
variable {s : St}
theorem plink_has {n m : Nat} {next : Int} (ok : Ok s) (hn : LS s n = true) (hm : LS s m = true) (h1 : cellS s (n : Int) 1 = next) (hx : next = -1 ∨ ∃ c : Nat, next = (c : Int) ∧ LS s c = true) :
    hasS (plinkS s (n : Int) (m : Int)) = lnF (hasS s) n m next ∧ Sm s (plinkS s (n : Int) (m : Int)) := by
  unfold plinkS
  rw [h1]
  have m1 := (Sm.tk ok 1).trans (Sm.set (Sm.tk ok 1).ok next 2 (m : Int))
  have m2 := m1.trans (Sm.set m1.ok (m : Int) 3 next)
  have m3 := m2.trans (Sm.set m2.ok (m : Int) 0 (n : Int))
  have m4 := m3.trans (Sm.set m3.ok (n : Int) 1 (m : Int))
  refine ⟨?_, m4⟩
  have e4 := set_has (s := setS (setS (setS (tk s 1) next 2 (m : Int)) (m : Int) 3 next) (m : Int) 0 (n : Int)) (c := n) (j := 1) (v := (m : Int)) (by rw [m3.ls]; exact hn) (by decide)
  have e3 := set_has (s := setS (setS (tk s 1) next 2 (m : Int)) (m : Int) 3 next) (c := m) (j := 0) (v := (n : Int)) (by rw [m2.ls]; exact hm) (by decide)
  have e2 := set_has (s := setS (tk s 1) next 2 (m : Int)) (c := m) (j := 3) (v := next) (by rw [m1.ls]; exact hm) (by decide)
  have e1 : ∀ c j, hasS (setS (tk s 1) next 2 (m : Int)) c j = if next = (c : Int) ∧ j = 2 then (m : Int) else hasS s c j := fun c j => by
    rcases hx with z | ⟨d, z, ld⟩
    · rw [z, set_none, if_neg (by omega)]; rfl
    · rw [z]
      have := set_has (s := Go.Proofs.Ythfdooigljkfiab.tk s 1) (c := d) (j := 2) (v := (m : Int)) ld (by decide)
      rw [show setS (Go.Proofs.Ythfdooigljkfiab.tk s 1) (d : Int) 2 (m : Int) = setS (Go.Proofs.Ythfdooigljkfiab.tk s 1) (d : Int) ((2 : Nat) : Int) (m : Int) from rfl, this]
      by_cases q : c = d ∧ j = 2
      · rw [q.1, q.2, put_eq2, if_pos ⟨rfl, rfl⟩]
      · rw [put_ne2 q, if_neg (fun y => q ⟨by omega, y.2⟩)]; rfl
  funext c j
  unfold lnF
  refine (congrFun (congrFun e4 c) j).trans ?_
  by_cases q1 : c = n ∧ j = 1
  · rw [if_pos q1, q1.1, q1.2, put_eq2]
  · rw [put_ne2 q1, if_neg q1]
    refine (congrFun (congrFun e3 c) j).trans ?_
    by_cases q2 : c = m ∧ j = 0
    · rw [if_pos q2, q2.1, q2.2, put_eq2]
    · rw [put_ne2 q2, if_neg q2]
      refine (congrFun (congrFun e2 c) j).trans ?_
      by_cases q3 : c = m ∧ j = 3
      · rw [if_pos q3, q3.1, q3.2, put_eq2]
      · rw [put_ne2 q3, if_neg q3]
        exact e1 c j
theorem Row.form {l : List Tr} (h : Row s l) {a : Tr} (ha : a ∈ l) : ∃ n i k, a = nd n i k lf := by
  have := h.top a ha
  cases a with
  | lf => exact absurd this id
  | nd n i k r => cases this; exact ⟨n, i, k, rfl⟩
theorem nb_of {n i m j : Nat} {k l : Tr} (ok : Ok s) (ha : Vp (LS s) (hasS s) (-1) (-1) (nd n i k lf)) (hb : Vp (LS s) (hasS s) (-1) (-1) (nd m j l lf)) : nbS s (m : Int) (n : Int) = befF (hasS s) j i := by
  unfold nbS
  have e1 : cellS s (n : Int) 6 = (i : Int) := cell_nat (j := 6) ok ha.1.1 (by decide) ha.1.2.2.2.2.2.2.1 ha.1.2.1
  have e2 : cellS s (m : Int) 6 = (j : Int) := cell_nat (j := 6) ok hb.1.1 (by decide) hb.1.2.2.2.2.2.2.1 hb.1.2.1
  rw [e1, e2]
  exact bef_nat hb.1.2.1 ha.1.2.1
theorem plink_tch {n i m j : Nat} {k l : Tr} (ok : Ok s) (ha : Vp (LS s) (hasS s) (-1) (-1) (nd n i k lf)) (hb : Vp (LS s) (hasS s) (-1) (-1) (nd m j l lf)) (hd : ((nd n i k lf).cells ++ (nd m j l lf).cells).Nodup) :
    Tch s (plinkS s (n : Int) (m : Int)) ((nd n i k lf).cells ++ (nd m j l lf).cells) ∧ Vp (LS (plinkS s (n : Int) (m : Int))) (hasS (plinkS s (n : Int) (m : Int))) (-1) (-1) (nd n i (nd m j l k) lf) := by
  have c1 : cellS s (n : Int) 1 = k.root := cell_root (j := 1) ok ha.1.1 (by decide) ha.1.2.2.2.1 ha.2.1
  obtain ⟨e, m1⟩ := plink_has ok ha.1.1 hb.1.1 c1 (by
    cases k with
    | lf => exact Or.inl rfl
    | nd x y z u => exact Or.inr ⟨x, rfl, ha.2.1.1.1⟩)
  have v := link_view ha hb hd
  refine ⟨⟨m1, fun c z hz => by rw [e, lnF_key _ _ _ _ _ hz], fun c hc z => ?_⟩, by rw [e, m1.ls]; exact v⟩
  rw [e]
  simp only [cells, List.mem_append, List.mem_cons, not_or] at hc
  exact lnF_out z hc.1.1 hc.2.1 (fun q => hc.1.2.2.1 (root_mem q))
/-- two heaps of a row are linked -/
theorem Row.link {a b : Tr} {l : List Tr} (h : Row s (a :: b :: l)) (ok : Ok s) :
    linkR s a.root b.root = (lnk (befF (hasS s)) a b).root ∧ Tch s (linkS s a.root b.root) (a.cells ++ b.cells) ∧ Row (linkS s a.root b.root) (lnk (befF (hasS s)) a b :: l) := by
  obtain ⟨n, i, k, rfl⟩ := h.form (a := a) (by simp)
  obtain ⟨m, j, u, rfl⟩ := h.form (a := b) (by simp)
  have ha := h.vp (nd n i k lf) (by simp)
  have hb := h.vp (nd m j u lf) (by simp)
  have hnd := h.nod
  rw [List.flatMap_cons, List.flatMap_cons, ← List.append_assoc, List.nodup_append] at hnd
  obtain ⟨d1, d2, d3⟩ := hnd
  have nb := nb_of ok ha hb
  have hcl : ∀ z, (lnk (befF (hasS s)) (nd n i k lf) (nd m j u lf)).cells.Perm z → z.Perm ((nd n i k lf).cells ++ (nd m j u lf).cells) := fun z hz => hz.symm.trans (lnk_cells (h.top _ (by simp)) (h.top _ (by simp))).1
  have main : Tch s (linkS s (n : Int) (m : Int)) ((nd n i k lf).cells ++ (nd m j u lf).cells) ∧ Vp (LS (linkS s (n : Int) (m : Int))) (hasS (linkS s (n : Int) (m : Int))) (-1) (-1) (lnk (befF (hasS s)) (nd n i k lf) (nd m j u lf)) ∧ linkR s (n : Int) (m : Int) = (lnk (befF (hasS s)) (nd n i k lf) (nd m j u lf)).root := by
    unfold linkS linkR
    rw [nb, lnk_nd]
    by_cases q : befF (hasS s) j i = true
    · rw [if_pos q, if_pos q, if_pos q]
      have t6 := Tch.tk ok 6 ((nd n i k lf).cells ++ (nd m j u lf).cells)
      obtain ⟨t1, v1⟩ := plink_tch (s := Go.Proofs.Ythfdooigljkfiab.tk s 6) t6.sm.ok hb ha ((List.perm_append_comm).nodup_iff.1 d1)
      exact ⟨t6.trans (t1.mono fun c hc => List.perm_append_comm.mem_iff.1 hc), v1, rfl⟩
    · rw [if_neg q, if_neg q, if_neg q]
      have t6 := Tch.tk ok 6 ((nd n i k lf).cells ++ (nd m j u lf).cells)
      obtain ⟨t1, v1⟩ := plink_tch (s := Go.Proofs.Ythfdooigljkfiab.tk s 6) t6.sm.ok ha hb d1
      exact ⟨t6.trans t1, v1, rfl⟩
  obtain ⟨t, v, r⟩ := main
  have cp := (lnk_cells (lt := befF (hasS s)) (h.top (nd n i k lf) (by simp)) (h.top (nd m j u lf) (by simp))).1
  refine ⟨r, t, ⟨fun x hx => ?_, fun x hx => ?_, fun x hx => ?_, ?_⟩⟩
  · rcases List.mem_cons.1 hx with rfl | hx
    · exact v
    · refine (h.vp x (by simp [hx])).like fun c hc => ⟨congrFun t.sm.ls c, fun z => t.out c (fun y => d3 c y c (List.mem_flatMap.2 ⟨x, hx, hc⟩) rfl) z⟩
  · rcases List.mem_cons.1 hx with rfl | hx
    · exact (lnk_top (h.top (nd n i k lf) (by simp)) (h.top (nd m j u lf) (by simp))).1
    · exact h.top x (by simp [hx])
  · show Ho (befF (hasS (linkS s (n : Int) (m : Int)))) x
    rw [t.bef]
    rcases List.mem_cons.1 hx with rfl | hx
    · exact lnk_ho (befF_tot _) (h.ho (nd n i k lf) (by simp)) (h.ho (nd m j u lf) (by simp))
    · exact h.ho x (by simp [hx])
  · rw [List.flatMap_cons, List.nodup_append]
    exact ⟨cp.nodup_iff.2 d1, d2, fun c hc d hd => d3 c (cp.mem_iff.1 hc) d hd⟩
end
end Go.Proofs.Ythfdooigljkfiab

/- The first pass of merge. -/
namespace Go.Proofs.Ythfdooigljkfiab
open Go.ChangeShapes Go.WideShapes Go.ChangeAt Go.RowKit
open Tr

/-- a root's cell -/
def rt : Tr → Nat
  | lf => 0
  | nd n _ _ _ => n
theorem rt_root {a : Tr} (h : Top a) : a.root = (rt a : Int) := by
  cases a with
  | lf => exact absurd h id
  | nd n i k r => rfl
theorem rts_kids : ∀ k : Tr, rts k = (kidsL k).map rt
  | lf => rfl
  | nd n i k r => by simp only [rts, kidsL, List.map_cons, rts_kids r]; rfl
section
variable {lt : Nat → Nat → Bool}
theorem prs_perm : ∀ {l : List Tr}, (∀ a ∈ l, Top a) → ((prs lt l).flatMap cells).Perm (l.flatMap cells) ∧ ((prs lt l).flatMap items).Perm (l.flatMap items) ∧ ((prs lt l).flatMap nodes).Perm (l.flatMap nodes)
  | [], _ => ⟨.refl _, .refl _, .refl _⟩
  | [x], _ => ⟨.refl _, .refl _, .refl _⟩
  | x :: y :: l, hl => by
    obtain ⟨p1, p2, p3⟩ := prs_perm (l := l) fun a ha => hl a (by simp [ha])
    obtain ⟨q1, q2, q3⟩ := lnk_cells (lt := lt) (hl x (by simp)) (hl y (by simp))
    simp only [prs, List.flatMap_cons, ← List.append_assoc]
    exact ⟨q1.append p1, q2.append p2, q3.append p3⟩
theorem mg_perm : ∀ {l : List Tr}, (∀ a ∈ l, Top a) → ((mg lt l).cells).Perm (l.flatMap cells) ∧ ((mg lt l).items).Perm (l.flatMap items) ∧ ((mg lt l).nodes).Perm (l.flatMap nodes)
  | [], _ => ⟨.refl _, .refl _, .refl _⟩
  | [x], hl => by
    simp only [mg, lnk, List.flatMap_cons, List.flatMap_nil, List.append_nil]
    exact ⟨.refl _, .refl _, .refl _⟩
  | x :: y :: l, hl => by
    have hl' : ∀ a ∈ y :: l, Top a := fun a ha => hl a (by simp only [List.mem_cons] at ha ⊢; exact Or.inr ha)
    obtain ⟨p1, p2, p3⟩ := mg_perm (l := y :: l) hl'
    obtain ⟨q1, q2, q3⟩ := lnk_cells (lt := lt) ((mg_top (lt := lt) hl').2.1 (by simp)) (hl x (by simp))
    have e : mg lt (x :: y :: l) = lnk lt (mg lt (y :: l)) x := rfl
    rw [e, List.flatMap_cons, List.flatMap_cons, List.flatMap_cons]
    exact ⟨q1.trans (List.perm_append_comm.trans (p1.append_left _)), q2.trans (List.perm_append_comm.trans (p2.append_left _)), q3.trans (List.perm_append_comm.trans (p3.append_left _))⟩
end

section
variable {F : Nat → Prop} {w w' : World} {pa pm : Nat} {s : St}
/-- the first pass: two by two -/
structure Ps1 (lt : Nat → Nat → Bool) (s0 s : St) (K P R : List Tr) : Prop where
  row : Row s (P ++ R)
  ok : Ok s
  prs : prs lt K = P ++ prs lt R
  tch : Tch s0 s (K.flatMap cells)
  len : P.length + R.length ≤ K.length
  lo : s0.steps ≤ s.steps
  hi : s.steps + 11 * (P.length + R.length) ≤ s0.steps + 11 * K.length
theorem Ps1.start {s : St} {K : List Tr} (h : Row s K) (ok : Ok s) : Ps1 (befF (hasS s)) s s K [] K :=
  ⟨h, ok, rfl, Tch.refl ok _, by simp, Nat.le_refl _, by simp⟩
theorem Ps1.step {s0 s : St} {K P R : List Tr} {a b : Tr} (h : Ps1 (befF (hasS s0)) s0 s K P (a :: b :: R)) (hs : ∀ x ∈ P ++ (a :: b :: R), ∀ c ∈ x.cells, c ∈ K.flatMap cells) :
    linkR s (rt a : Int) (rt b : Int) = (rt (lnk (befF (hasS s0)) a b) : Int) ∧ Ps1 (befF (hasS s0)) s0 (linkS s (rt a : Int) (rt b : Int)) K (P ++ [lnk (befF (hasS s0)) a b]) R := by
  have p1 : (P ++ a :: b :: R).Perm (a :: b :: (P ++ R)) := List.perm_middle.trans (.cons a List.perm_middle)
  have hr := h.row.perm p1
  obtain ⟨e, t, r⟩ := hr.link h.ok
  rw [h.tch.bef] at e r
  have ha := hr.top a (by simp)
  have hb := hr.top b (by simp)
  rw [rt_root ha, rt_root hb] at e t r
  have tl := (lnk_top (lt := befF (hasS s0)) ha hb).1
  rw [rt_root tl] at e
  refine ⟨e, ?_, t.sm.ok, ?_, h.tch.trans (t.mono fun c hc => ?_), ?_, ?_, ?_⟩
  · rw [List.append_assoc]
    exact r.perm List.perm_middle.symm
  · rw [h.prs]; simp [Go.Proofs.Ythfdooigljkfiab.prs]
  · rcases List.mem_append.1 hc with hc | hc
    · exact hs a (by simp) c hc
    · exact hs b (by simp) c hc
  · have := h.len; simp at this ⊢; omega
  · rw [link_steps]; have := h.lo; omega
  · rw [link_steps]; have := h.hi; simp at this ⊢; omega

theorem Ps1.sub {s0 s : St} {K P R : List Tr} (hK : ∀ a ∈ K, Top a) (p : Ps1 (befF (hasS s0)) s0 s K P R) : ∀ x ∈ P ++ R, ∀ c ∈ x.cells, c ∈ K.flatMap cells := fun x hx c hc => by
  have q := (prs_perm (lt := befF (hasS s0)) (l := K) hK).1
  have q2 := (prs_perm (lt := befF (hasS s0)) (l := R) (fun a ha => p.row.top a (by simp [ha]))).1
  rw [p.prs, List.flatMap_append] at q
  refine q.mem_iff.1 ?_
  rcases List.mem_append.1 hx with hx | hx
  · exact List.mem_append_left _ (List.mem_flatMap.2 ⟨x, hx, hc⟩)
  · exact List.mem_append_right _ (q2.mem_iff.2 (List.mem_flatMap.2 ⟨x, hx, hc⟩))
end
end Go.Proofs.Ythfdooigljkfiab

/- The library's Backward over a list of a call's own: what its rounds are handed. -/
namespace Go.Proofs.Ythfdooigljkfiab
open Go.ChangeShapes Go.WideShapes Go.ChangeAt Go.RowKit Go.Shelf
attribute [local go_sem] Oper.semAt_some

/-- the last k of m, from the end on -/
def dn (m : Nat) (zs : List Int) : Nat → List (Nat × Int)
  | 0 => []
  | k + 1 => dn m zs k ++ [(m - 1 - k, zs[m - 1 - k]?.getD 0)]
theorem dn_length (m : Nat) (zs : List Int) : ∀ k, (dn m zs k).length = k
  | 0 => rfl
  | k + 1 => by simp only [dn, List.length_append, dn_length m zs k]; rfl
/-- the two blocks that the iterator reads are as they were -/
def Kp2 (x y : Nat) (A B : World) : Prop := B.heap[x]? = A.heap[x]? ∧ B.heap[y]? = A.heap[y]?

set_option maxRecDepth 100000 in
set_option maxHeartbeats 1000000 in
theorem backward1_in (F : Fence) (n : Nat) (h97 : F.fn 79) (hro : F.round = none) (hn : 1 ≤ n) (l Bs dg cap m : Nat) (a : Option Addr) (zs : List Int) (hm : m ≤ 50000) (ha : 0 < m → a = some ⟨dg, 0, none⟩) (J Jx : List (Nat × Int) → World → Prop)
    (hY : ∀ pre x W, J pre W → pre.length < m → YieldAt F (n - 1) Try.prog l #[.int .i64 (x.1 : Int), .int .i64 x.2] W fun e W' =>
      (e = .returned (.bool true) ∧ J (pre ++ [x]) W' ∧ Kp2 Bs dg W W') ∨ (e = .returned (.bool false) ∧ Jx (pre ++ [x]) W'))
    (W : World) (hBs : W.cell? ⟨Bs, 0, none⟩ = some (.slice a m cap)) (hc : ∀ j, j < m → W.cell? ⟨dg, j, none⟩ = some (.int .i64 (zs[j]?.getD 0))) (h0 : J [] W) :
    CallsIn F n Try.prog 79 #[.func (.yield l) #[] #[], .pointer (some ⟨Bs, 0, none⟩)] W fun e W' => (∃ v, e = .returned v) ∧
      ((∃ ys, ys = dn m zs m ∧ J ys W') ∨ (∃ pre, Jx pre W')) := by
  refine callsIn_of_wp Try.func79 rfl h97 ?_ hro
  simp only [Try.ntmps79, List.size_toArray, List.length_cons, List.length_nil, Nat.reduceAdd, Nat.reduceSub, Array.replicate_succ, Array.replicate_zero, List.push_toArray, List.append_toArray, List.nil_append, List.cons_append]
  have hw0 : IntKind.i64.wrap ((m : Int) - 1) = (m : Int) - 1 := IntWalk.i64_in _ (by omega)
  gi_wp2
  gi_loopw [3] (fun iv wr => ∃ k : Nat, k ≤ m ∧ iv = .int .i64 ((m : Int) - 1 - (k : Int)) ∧ J (dn m zs k) wr ∧ Kp2 Bs dg W wr)
    (fun iv _ => (intOf iv + 1).toNat)
  case atStart => exact ⟨0, Nat.zero_le _, by simp, h0, rfl, rfl⟩
  case round =>
    obtain ⟨k, hk, rfl, hJs, hk1, hk2⟩ := hrel
    have hbs : wr.cell? ⟨Bs, 0, none⟩ = some (.slice a m cap) := (World.cell?_of_block (w := W) hk1).trans hBs
    by_cases hlt : k < m
    · obtain ⟨i, hi⟩ : ∃ i : Nat, (m : Int) - 1 - (k : Int) = (i : Int) := ⟨m - 1 - k, by omega⟩
      have hik : i = m - 1 - k := by omega
      obtain rfl := ha (by omega)
      have hcx : wr.cell? ⟨dg, i, none⟩ = some (.int .i64 (zs[i]?.getD 0)) := (World.cell?_of_block (w := W) hk2).trans (hc i (by omega))
      obtain ⟨fn, tmps, assign, body, hy, hR⟩ := hY _ (i, zs[i]?.getD 0) wr hJs (by rw [dn_length]; exact hlt)
      dsimp only at hy
      have hDN : dn m zs (k + 1) = dn m zs k ++ [(i, zs[i]?.getD 0)] := by rw [hik]; rfl
      have HDN : Hid (dn m zs (k + 1) = dn m zs k ++ [(i, zs[i]?.getD 0)]) := hDN
      have hi15 : i < m := by omega
      have hi15' : (i : Int) < (m : Int) := by omega
      have HIK : Hid (i = m - 1 - k) := hik
      have HI : Hid ((m : Int) - 1 - (k : Int) = (i : Int)) := hi
      have hwi : IntKind.i64.wrap ((i : Int) - 1) = (i : Int) - 1 := IntWalk.i64_in _ (by omega)
      rw [hi]
      clear hDN hik hi hw0
      gi_wp2
      refine hR.mono ?_
      rintro e W3 (⟨rfl, hJ3, hk3⟩ | ⟨rfl, hJx3⟩)
      · gi_wp2
        go_roundw
        case rel => exact ⟨k + 1, by omega, by have := HI.out; congr 1; omega, by rw [HDN.out]; exact hJ3, hk3.1.trans hk1, hk3.2.trans hk2⟩
        case measure => simp [intOf] <;> omega
      · gi_wp2
        refine bodyPost_ret (results_none rfl _ _ _) rfl ?_
        exact ⟨⟨_, rfl⟩, .inr ⟨_, hJx3⟩⟩
    · obtain rfl : k = m := by omega
      rw [show (k : Int) - 1 - (k : Int) = -1 by omega]
      clear hw0
      gi_wp2
      go_end0
      exact ⟨⟨_, rfl⟩, .inl ⟨_, rfl, hJs⟩⟩

set_option maxHeartbeats 1000000 in
theorem backward_in (F : Fence) (n : Nat) (h89 : F.fn 74) (hro : F.round = none) (a : Option Addr) (len cap : Nat) (w : World) :
    CallsIn F n Try.prog 74 #[.slice a len cap] w fun e w' => e = .returned (.func (.func 79) #[] #[.pointer (some ⟨w.heap.size, 0, none⟩)]) ∧ w' = w.alloc (.cells #[.slice a len cap] 23) := by
  refine callsIn_of_wp Try.func74 rfl h89 ?_ hro
  simp only [Try.ntmps74, List.size_toArray, List.length_cons, List.length_nil, Nat.reduceAdd, Nat.reduceSub, Array.replicate_succ, Array.replicate_zero, List.push_toArray, List.append_toArray, List.nil_append, List.cons_append]
  gi_wp2
  go_ret
  exact ⟨rfl, rfl⟩
theorem backward_stops (F : Fence) (n : Nat) (h97 : F.fn 79) (hro : F.round = none) (hn : 1 ≤ n) (Bs dg cap m : Nat) (a : Option Addr) (zs : List Int) (hm : m ≤ 50000) (ha : 0 < m → a = some ⟨dg, 0, none⟩) (w : World) (hb : Bs < w.heap.size) (hd : dg < w.heap.size)
    (hBs : w.cell? ⟨Bs, 0, none⟩ = some (.slice a m cap)) (hc : ∀ j, j < m → w.cell? ⟨dg, j, none⟩ = some (.int .i64 (zs[j]?.getD 0))) :
    SeqStopsK F n Try.prog 79 #[.pointer (some ⟨Bs, 0, none⟩)] (fun x : Nat × Int => #[.int .i64 (x.1 : Int), .int .i64 x.2]) (Kp2 Bs dg) (fun xs => xs = dn m zs m) (fun _ => True) m w := by
  intro l J Jx W hW hJ hJx hY h0
  refine (backward1_in F n h97 hro hn l Bs dg cap m a zs hm ha J Jx hY W ((hW.cell (p := ⟨Bs, 0, none⟩) hb).trans hBs) (fun j hj => (hW.cell (p := ⟨dg, j, none⟩) hd).trans (hc j hj)) h0).mono ?_
  rintro e W' ⟨hv, h | ⟨pre, h⟩⟩
  · exact ⟨hv, .inl h⟩
  · exact ⟨hv, .inr ⟨pre, trivial, h⟩⟩
end Go.Proofs.Ythfdooigljkfiab
