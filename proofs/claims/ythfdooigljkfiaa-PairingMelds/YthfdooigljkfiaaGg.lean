/- Several texts in one. -/
import Derived.Test.YthfdooigljkfiaaGf
import Derived.Test.YthfdooigljkfiaaGb
/- Leave and remove, of heaps. -/
namespace Go.Proofs.Ythfdooigljkfiaa
open Go.ChangeShapes Go.WideShapes Go.ChangeAt Go.RowKit
open Tr

theorem rmv_perm {lt : Nat → Nat → Bool} (k : Tr) : (rmv lt k).cells.Perm k.cells ∧ (rmv lt k).items.Perm k.items ∧ (rmv lt k).nodes.Perm k.nodes := by
  have hk : ∀ a ∈ kidsL k, Top a := fun a ha => kids_top a ha
  obtain ⟨p1, p2, p3⟩ := prs_perm (lt := lt) hk
  obtain ⟨q1, q2, q3⟩ := mg_perm (lt := lt) (l := prs lt (kidsL k)) (prs_top hk)
  obtain ⟨e1, e2, e3⟩ := kids_cells k
  rw [e1] at p1; rw [e2] at p2; rw [e3] at p3
  exact ⟨q1.trans p1, q2.trans p2, q3.trans p3⟩
section
variable {L : Nat → Bool} {f : Nat → Nat → Int} {x : Nat}
theorem Vp.upn : ∀ {up q : Int} {t : Tr}, Vp L f up q t → x ∈ t.nodes → f x 0 = up ∨ ∃ m ∈ t.nodes, f x 0 = (m : Int)
  | _, _, lf, _, h => by simp [nodes] at h
  | up, q, nd n i k r, ⟨⟨h1, h2, h3, h4, h5, h6, h7, h8⟩, hk, hr⟩, h => by
    simp only [nodes, List.mem_cons, List.mem_append] at h ⊢
    rcases h with e | h | h
    · subst e; exact Or.inl h3
    · rcases Vp.upn hk h with z | ⟨m, hm, z⟩
      · exact Or.inr ⟨n, Or.inl rfl, z⟩
      · exact Or.inr ⟨m, Or.inr (Or.inl hm), z⟩
    · rcases Vp.upn hr h with z | ⟨m, hm, z⟩
      · exact Or.inl z
      · exact Or.inr ⟨m, Or.inr (Or.inr hm), z⟩
theorem Vp.leftn : ∀ {up q : Int} {t : Tr}, Vp L f up q t → x ∈ t.nodes → f x 2 = q ∨ f x 2 = -1 ∨ ∃ m ∈ t.nodes, f x 2 = (m : Int)
  | _, _, lf, _, h => by simp [nodes] at h
  | up, q, nd n i k r, ⟨⟨h1, h2, h3, h4, h5, h6, h7, h8⟩, hk, hr⟩, h => by
    simp only [nodes, List.mem_cons, List.mem_append] at h ⊢
    rcases h with e | h | h
    · subst e; exact Or.inl h5
    · rcases Vp.leftn hk h with z | z | ⟨m, hm, z⟩
      · exact Or.inr (Or.inl z)
      · exact Or.inr (Or.inl z)
      · exact Or.inr (Or.inr ⟨m, Or.inr (Or.inl hm), z⟩)
    · rcases Vp.leftn hr h with z | z | ⟨m, hm, z⟩
      · exact Or.inr (Or.inr ⟨n, Or.inl rfl, z⟩)
      · exact Or.inr (Or.inl z)
      · exact Or.inr (Or.inr ⟨m, Or.inr (Or.inr hm), z⟩)
theorem Vp.rightn : ∀ {up q : Int} {t : Tr}, Vp L f up q t → x ∈ t.nodes → f x 3 = -1 ∨ ∃ m ∈ t.nodes, f x 3 = (m : Int)
  | _, _, lf, _, h => by simp [nodes] at h
  | up, q, nd n i k r, ⟨⟨h1, h2, h3, h4, h5, h6, h7, h8⟩, hk, hr⟩, h => by
    simp only [nodes, List.mem_cons, List.mem_append] at h ⊢
    rcases h with e | h | h
    · subst e
      rw [h6]
      cases r with
      | lf => exact Or.inl rfl
      | nd m j a b => exact Or.inr ⟨m, Or.inr (Or.inr (by simp [nodes])), rfl⟩
    · rcases Vp.rightn hk h with z | ⟨m, hm, z⟩
      · exact Or.inl z
      · exact Or.inr ⟨m, Or.inr (Or.inl hm), z⟩
    · rcases Vp.rightn hr h with z | ⟨m, hm, z⟩
      · exact Or.inl z
      · exact Or.inr ⟨m, Or.inr (Or.inr hm), z⟩
theorem Vp.at_item : ∀ {up q : Int} {t : Tr} {j : Nat}, Vp L f up q t → j ∈ t.items → ∃ x ∈ t.nodes, f j 9 = (x : Int) ∧ f x 6 = (j : Int)
  | _, _, lf, _, _, h => by simp [items] at h
  | up, q, nd n i k r, j, ⟨⟨h1, h2, h3, h4, h5, h6, h7, h8⟩, hk, hr⟩, h => by
    simp only [items, List.mem_cons, List.mem_append] at h
    simp only [nodes, List.mem_cons, List.mem_append]
    rcases h with e | h | h
    · subst e; exact ⟨n, Or.inl rfl, h8, h7⟩
    · obtain ⟨x, hx, z⟩ := Vp.at_item hk h
      exact ⟨x, Or.inr (Or.inl hx), z⟩
    · obtain ⟨x, hx, z⟩ := Vp.at_item hr h
      exact ⟨x, Or.inr (Or.inr hx), z⟩
end
section
variable {s : St} {n i x : Nat} {k : Tr}
theorem leave_has (ok : Ok s) (lx : LS s x = true) (hr : hasS s x 3 = -1 ∨ ∃ m : Nat, hasS s x 3 = (m : Int) ∧ LS s m = true) (hl : hasS s x 2 = -1 ∨ ∃ m : Nat, hasS s x 2 = (m : Int) ∧ LS s m = true) (hu : ∃ m : Nat, hasS s x 0 = (m : Int) ∧ LS s m = true) :
    hasS (leaveS s (x : Int)) = lvF (hasS s) x ∧ Sm s (leaveS s (x : Int)) := by
  obtain ⟨u, eu, lu⟩ := hu
  have c0 : cellS s (x : Int) 0 = (u : Int) := cell_nat (j := 0) ok lx (by decide) eu lu
  have c2 : cellS s (x : Int) 2 = hasS s x 2 := by
    rcases hl with z | ⟨m, z, lm⟩
    · rw [z]; exact cell_neg (j := 2) lx (by decide) z
    · rw [z]; exact cell_nat (j := 2) ok lx (by decide) z lm
  have c3 : cellS s (x : Int) 3 = hasS s x 3 := by
    rcases hr with z | ⟨m, z, lm⟩
    · rw [z]; exact cell_neg (j := 3) lx (by decide) z
    · rw [z]; exact cell_nat (j := 3) ok lx (by decide) z lm
  unfold leaveS
  have h1 : Sm s (leave1 s (x : Int)) ∧ ∀ c j, hasS (leave1 s (x : Int)) c j = if j = 1 ∧ hasS s x 2 = -1 ∧ hasS s x 0 = (c : Int) then hasS s x 3 else if j = 3 ∧ hasS s x 2 ≠ -1 ∧ hasS s x 2 = (c : Int) then hasS s x 3 else hasS s c j := by
    unfold leave1
    rw [c2, c3, c0]
    by_cases q : hasS s x 2 = -1
    · rw [if_pos q]
      refine ⟨(Sm.tk ok 3).trans (Sm.set (Sm.tk ok 3).ok _ _ _), fun c j => ?_⟩
      have := set_has (s := tk s 3) (c := u) (j := 1) (v := hasS s x 3) lu (by decide)
      refine (congrFun (congrFun this c) j).trans ?_
      by_cases z : c = u ∧ j = 1
      · rw [z.1, z.2, put_eq2, if_pos ⟨rfl, q, eu⟩]
      · rw [put_ne2 z, if_neg (fun y => z ⟨by have := y.2.2; omega, y.1⟩), if_neg (fun y => y.2.1 q)]; rfl
    · rw [if_neg q]
      obtain ⟨m, em, lm⟩ := hl.resolve_left q
      refine ⟨(Sm.tk ok 3).trans (Sm.set (Sm.tk ok 3).ok _ _ _), fun c j => ?_⟩
      rw [em]
      have := set_has (s := tk s 3) (c := m) (j := 3) (v := hasS s x 3) lm (by decide)
      refine (congrFun (congrFun this c) j).trans ?_
      by_cases z : c = m ∧ j = 3
      · rw [z.1, z.2, put_eq2, if_neg (by omega), if_pos ⟨rfl, by omega, rfl⟩]
      · rw [put_ne2 z, if_neg (fun y => by have := y.2.1; omega), if_neg (fun y => z ⟨by have := y.2.2; omega, y.1⟩)]; rfl
  obtain ⟨m1, e1⟩ := h1
  generalize leave1 s (x : Int) = s1 at *
  rw [c2, c3]
  have h2 : Sm s (setS s1 (hasS s x 3) 2 (hasS s x 2)) ∧ ∀ c j, hasS (setS s1 (hasS s x 3) 2 (hasS s x 2)) c j = if j = 2 ∧ hasS s x 3 = (c : Int) then hasS s x 2 else hasS s1 c j := by
    refine ⟨m1.trans (Sm.set m1.ok _ _ _), fun c j => ?_⟩
    rcases hr with z | ⟨m, z, lm⟩
    · rw [z, set_none, if_neg (by omega)]; rfl
    · rw [z]
      have := set_has (s := s1) (c := m) (j := 2) (v := hasS s x 2) (by rw [m1.ls]; exact lm) (by decide)
      refine (congrFun (congrFun this c) j).trans ?_
      by_cases y : c = m ∧ j = 2
      · rw [y.1, y.2, put_eq2, if_pos ⟨rfl, rfl⟩]
      · rw [put_ne2 y, if_neg (fun v => y ⟨by have := v.2; omega, v.1⟩)]
  obtain ⟨m2, e2⟩ := h2
  generalize setS s1 (hasS s x 3) 2 (hasS s x 2) = s2 at *
  obtain ⟨e3, m3⟩ := alone_view (s := s2) (n := x) m2.ok (by rw [m2.ls]; exact lx)
  refine ⟨?_, m2.trans m3⟩
  rw [e3]
  funext c j
  unfold aloF lvF
  by_cases q : c = x ∧ (j = 0 ∨ j = 2 ∨ j = 3)
  · rw [if_pos q, if_pos ⟨by simp [q.1], q.2⟩]
  · rw [if_neg q, if_neg (fun y => q ⟨by simpa using y.1, y.2⟩), e2 c j, e1 c j]
/-- a child leaves -/
theorem leave_heap (hv : Vp (LS s) (hasS s) (-1) (-1) (nd n i k lf)) (hn : (nd n i k lf).cells.Nodup) (ok : Ok s) (hx : x ∈ k.nodes) :
    Tch s (leaveS s (x : Int)) (nd n i k lf).cells ∧ Vp (LS (leaveS s (x : Int))) (hasS (leaveS s (x : Int))) (-1) (-1) (nd n i (del x k) lf) ∧ Vp (LS (leaveS s (x : Int))) (hasS (leaveS s (x : Int))) (-1) (-1) (sub x k) ∧ cellS s (x : Int) 0 ≠ -1 := by
  have hk := hv.2.1
  have hnd := hn
  simp only [cells, List.append_nil, List.nodup_cons, List.mem_cons, not_or] at hnd
  obtain ⟨⟨n1, n2⟩, n3, n4⟩ := hnd
  have lv : ∀ m ∈ k.nodes, LS s m = true := fun m hm => hk.live m (node_cell hm)
  have up : ∃ m : Nat, hasS s x 0 = (m : Int) ∧ LS s m = true ∧ m ∈ (nd n i k lf).cells := by
    rcases hk.upn hx with z | ⟨m, hm, z⟩
    · exact ⟨n, z, hv.1.1, by simp [cells]⟩
    · exact ⟨m, z, lv m hm, by simp [cells, node_cell hm]⟩
  have rt : hasS s x 3 = -1 ∨ ∃ m : Nat, hasS s x 3 = (m : Int) ∧ LS s m = true ∧ m ∈ k.nodes := (hk.rightn hx).imp id fun ⟨m, hm, z⟩ => ⟨m, z, lv m hm, hm⟩
  have lt : hasS s x 2 = -1 ∨ ∃ m : Nat, hasS s x 2 = (m : Int) ∧ LS s m = true ∧ m ∈ k.nodes := by
    rcases hk.leftn hx with z | z | ⟨m, hm, z⟩
    · exact Or.inl z
    · exact Or.inl z
    · exact Or.inr ⟨m, z, lv m hm, hm⟩
  obtain ⟨u, eu, lu, uc⟩ := up
  have lx := lv x hx
  obtain ⟨e, m⟩ := leave_has ok lx (rt.imp id fun ⟨m, a, b, _⟩ => ⟨m, a, b⟩) (lt.imp id fun ⟨m, a, b, _⟩ => ⟨m, a, b⟩) ⟨u, eu, lu⟩
  have hxt : x ∈ (nd n i k lf).nodes := by simp [nodes, hx]
  have v := leave_view hv hn hxt (fun c _ => ⟨by omega, by omega⟩)
  have xn : ¬ n = x := fun z => n2 (z ▸ node_cell hx)
  have d1 : del x (nd n i k lf) = nd n i (del x k) lf := by simp only [del]; rw [if_neg xn]
  have d2 : sub x (nd n i k lf) = sub x k := by simp only [sub]; rw [if_neg xn, if_pos hx]
  rw [d1, d2] at v
  refine ⟨⟨m, fun c j hj => by rw [e, lvF_key _ _ _ _ hj], fun c hc j => ?_⟩, by rw [e, m.ls]; exact v.1, by rw [e, m.ls]; exact v.2, ?_⟩
  · rw [e]
    refine lvF_out j (fun z => hc ?_) (fun z => ?_) (fun _ z => ?_) (fun z => ?_)
    · rw [z]; simp [cells, node_cell hx]
    · rcases rt with y | ⟨a, b, _, d⟩
      · omega
      · have : a = c := by omega
        exact hc (by rw [← this]; simp [cells, node_cell d])
    · have : u = c := by omega
      exact hc (this ▸ uc)
    · rcases lt with y | ⟨a, b, _, d⟩
      · omega
      · have : a = c := by omega
        exact hc (by rw [← this]; simp [cells, node_cell d])
  · rw [show cellS s (x : Int) 0 = (u : Int) from cell_nat (j := 0) ok lx (by decide) eu lu]; omega
/-- the two heaps behind it -/
theorem leave_row (hv : Vp (LS s) (hasS s) (-1) (-1) (nd n i k lf)) (hn : (nd n i k lf).cells.Nodup) (ok : Ok s) (hx : x ∈ k.nodes) (o1 : Hu (befF (hasS s)) i (del x k)) (o2 : Ho (befF (hasS s)) (sub x k)) :
    Row (leaveS s (x : Int)) [nd n i (del x k) lf, sub x k] := by
  obtain ⟨t, v1, v2, _⟩ := leave_heap hv hn ok hx
  have hnd := hn
  simp only [cells, List.append_nil, List.nodup_cons, List.mem_cons, not_or] at hnd
  obtain ⟨⟨n1, n2⟩, n3, n4⟩ := hnd
  obtain ⟨j, kk, es⟩ := sub_top n4 hx
  have p := (del_perm n4 hx).1
  refine ⟨fun a ha => ?_, fun a ha => ?_, fun a ha => ?_, ?_⟩
  · rcases List.mem_cons.1 ha with rfl | ha
    · exact v1
    · rw [List.mem_singleton.1 ha]; exact v2
  · rcases List.mem_cons.1 ha with rfl | ha
    · rfl
    · rw [List.mem_singleton.1 ha, es]; rfl
  · rw [t.bef]
    rcases List.mem_cons.1 ha with rfl | ha
    · exact o1
    · rw [List.mem_singleton.1 ha]; exact o2
  · have e : [nd n i (del x k) lf, sub x k].flatMap cells = n :: i :: ((del x k).cells ++ (sub x k).cells) := by simp [cells]
    rw [e]
    refine ((List.Perm.cons n (List.Perm.cons i p)).nodup_iff).1 ?_
    simp only [List.nodup_cons, List.mem_cons, not_or]
    exact ⟨⟨n1, n2⟩, n3, n4⟩
end
end Go.Proofs.Ythfdooigljkfiaa

/- The walks of Min, Pop, Push, Meld, Fall, Cut, of heaps. -/
namespace Go.Proofs.Ythfdooigljkfiaa
open Go.ChangeShapes Go.WideShapes Go.ChangeAt Go.RowKit
open Tr

/-- where item and node are one another's -/
def puB (s : St) (i : Int) : St := setS (setS (takeS (tk s 1)) (nextS s) 6 i) i 9 (nextS s)
theorem puB_steps (s : St) (i : Int) : (puB s i).steps = s.steps + 4 := by unfold puB; rw [set_steps, set_steps, take_steps]; rfl
theorem puB_most (s : St) (i : Int) : (puB s i).most = s.most := by unfold puB; rw [set_most, set_most, take_most]; rfl
theorem puB_view {s : St} {i : Nat} (ok : Ok s) (li0 : LS s i = true) (hx : 0 ≤ nextS s) :
    ∃ n : Nat, nextS s = (n : Int) ∧ LS s n = false ∧ LS (takeS (tk s 1)) n = true ∧ LS (takeS (tk s 1)) i = true ∧ n ≠ i ∧ Ok (puB s (i : Int)) ∧ LS (puB s (i : Int)) n = true ∧ LS (puB s (i : Int)) i = true ∧ (∀ j, j ≠ 6 → hasS (puB s (i : Int)) n j = fr j) ∧ hasS (puB s (i : Int)) n 6 = (i : Int) ∧ hasS (puB s (i : Int)) i 9 = (n : Int) ∧ cnt (puB s (i : Int)).pl = cnt s.pl + 1 ∧
      (∀ c, c ≠ n → LS (puB s (i : Int)) c = LS s c) ∧ ∀ c j, c ≠ n → (c ≠ i ∨ j ≠ 9) → hasS (puB s (i : Int)) c j = hasS s c j := by
  have hk1 := Sm.tk ok 1
  obtain ⟨n, e, h1, h2, h3, h4⟩ := take_view hk1.ok (show 0 ≤ nextS (tk s 1) from hx)
  have e' : nextS s = (n : Int) := e
  have hni : n ≠ i := fun q => by subst q; rw [show LS (tk s 1) n = LS s n from rfl, li0] at h1; cases h1
  have ok1 := hk1.ok.take
  have ln : LS (takeS (tk s 1)) n = true := by rw [h2, if_pos rfl]
  have li : LS (takeS (tk s 1)) i = true := by rw [h2, if_neg (fun q => hni q.symm)]; exact li0
  refine ⟨n, e', h1, ln, li, hni, ?_⟩
  unfold puB
  rw [e']
  have m1 := Sm.set ok1 (n : Int) 6 (i : Int)
  have v1 : hasS (setS (takeS (tk s 1)) (n : Int) 6 (i : Int)) = put (hasS (takeS (tk s 1))) n 6 (i : Int) := set_has (j := 6) ln (by decide)
  have m2 := m1.trans (Sm.set m1.ok (i : Int) 9 (n : Int))
  have v2 : hasS (setS (setS (takeS (tk s 1)) (n : Int) 6 (i : Int)) (i : Int) 9 (n : Int)) = put (put (hasS (takeS (tk s 1))) n 6 (i : Int)) i 9 (n : Int) := by rw [← v1]; exact set_has (j := 9) (by rw [m1.ls]; exact li) (by decide)
  generalize setS (setS (takeS (tk s 1)) (n : Int) 6 (i : Int)) (i : Int) 9 (n : Int) = s3 at *
  refine ⟨m2.ok, by rw [m2.ls]; exact ln, by rw [m2.ls]; exact li, fun j q6 => by rw [v2, put_ne hni, put_nj q6, h3, if_pos rfl], by rw [v2, put_ne hni, put_at], by rw [v2, put_at], by rw [cnt_sm ok1 m2, h4]; rfl, fun c hc => by rw [m2.ls, h2, if_neg hc]; rfl, fun c j hc hi => by rw [v2, put_or hi, put_ne hc, h3, if_neg hc]; rfl⟩

/-- the root's item -/
def itemr : Tr → Int
  | lf => -1
  | nd _ i _ _ => i
theorem Tch.of_tk {s s' : St} {q : Nat} {C : List Nat} (ok : Ok s) (h : Tch (Go.Proofs.Ythfdooigljkfiaa.tk s q) s' C) : Tch s s' C := ⟨(Sm.tk ok q).trans h.sm, h.key, h.out⟩
theorem Mld.of_tk {s s' : St} {q : Nat} {t u t' : Tr} (ok : Ok s) (h : Mld (tk s q) s' t u t') : Mld s s' t u t' := ⟨h.hp, h.pc, h.pi, h.tch.of_tk ok⟩
theorem Hpp.tk {s : St} {t : Tr} (h : Hpp s t) (k : Nat) : Hpp (tk s k) t := ⟨h.vp, h.top, h.ho, h.nod⟩
theorem Rmv.of_tk {s s' : St} {q n i : Nat} {k : Tr} {r : Int} (h : Rmv (tk s q) s' n i k r) : r = (rmv (befF (hasS s)) k).root ∧ Rmx s s' (nd n i k lf) (rmv (befF (hasS s)) k) n i ∧ s.steps + q ≤ s'.steps ∧ s'.steps ≤ s.steps + q + 4 + 17 * (kidsL k).length := by
  obtain ⟨p1, p2, _⟩ := rmv_perm (lt := befF (hasS s)) k
  refine ⟨h.root, ⟨h.hp, ?_, ?_, h.ok, h.num, h.most, h.ls, h.key, h.out⟩, h.lo, h.hi⟩
  · simp only [cells, List.append_nil]
    exact .cons _ (.cons _ p1.symm)
  · simp only [items, List.append_nil]
    exact .cons _ p2.symm

section
variable {F : Nat → Prop} {w0 w w' : World} {pa pm : Nat} {s s' : St} {t u : Tr} {n i : Nat} {k : Tr}
theorem root_vp (hv : Vp (LS s) (hasS s) (-1) (-1) t) (ok : Ok s) : rootS s t.root = t.root := by
  cases t with
  | lf => exact root_none
  | nd n i k r =>
    obtain ⟨⟨v1, v2, v3, v4, v5, v6, v7, v8⟩, _, _⟩ := hv
    have c0 : cellS s (n : Int) 0 = -1 := cell_neg (j := 0) v1 (by decide) v3
    have c6 : cellS s (n : Int) 6 = (i : Int) := cell_nat (j := 6) ok v1 (by decide) v7 v2
    have c9 : cellS s (i : Int) 9 = (n : Int) := cell_nat (j := 9) ok v2 (by decide) v8 v1
    show rootS s (n : Int) = (n : Int)
    unfold rootS
    rw [c6, if_pos ⟨c0, c9⟩]
theorem itemr_cell (hv : Vp (LS s) (hasS s) (-1) (-1) t) (ok : Ok s) : cellS s t.root 6 = itemr t := by
  cases t with
  | lf => exact cell_none
  | nd n i k r => exact cell_nat (j := 6) ok hv.1.1 (by decide) hv.1.2.2.2.2.2.2.1 hv.1.2.1
theorem pminT (hp : Hpp s t) (ok : Ok s) (e : Ex F w0 w pa pm s) (hs : s.steps ≤ 99990000) :
    Calls Try.prog 8 #[.pointer (some ⟨pa, 0, none⟩), .int .i64 t.root] w fun e w' => e = .returned (.int .i64 (itemr t)) ∧ ∃ k, k ≤ 4 ∧ Ex F w0 w' pa pm (tk s k) := by
  have R := hid (rootT t.root e (by omega))
  rw [root_vp hp.vp ok] at R
  have IC := hid (itemr_cell hp.vp ok)
  generalize t.root = r at *
  generalize itemr t = m at *
  clear hp ok e
  go_enter Try.func8, Try.ntmps8
  go_wp2_with fail
  refine R.out.mono ?_
  rintro e w1 ⟨rfl, k, hk, e1⟩
  have E1 := hid e1
  have HK := hid hk
  have C := hid (cellT r 6 E1.out (by show s.steps + k ≤ _; omega))
  rw [show cellS (tk s k) r 6 = m from IC.out] at C
  clear R e1 hk
  go_wp2_with fail
  refine C.out.mono ?_
  rintro e w2 ⟨rfl, e2⟩
  have E2 := hid e2
  clear C e2 E1
  go_wp2
  go_ret
  exact ⟨rfl, k + 1, by have := HK.out; omega, by rw [← tk_tk]; exact E2.out⟩
/-- meld, of heaps -/
theorem pmeldT {a b : Tr} (ha : Hpp s a) (hb : Hpp s b) (hd : (a.cells ++ b.cells).Nodup) (ok : Ok s) (e : Ex F w0 w pa pm s) (hs : s.steps ≤ 99999000) :
    Calls Try.prog 43 #[.pointer (some ⟨pa, 0, none⟩), .int .i64 a.root, .int .i64 b.root] w fun e w' => ∃ (s' : St) (t' : Tr), e = .returned (.int .i64 t'.root) ∧ Ex F w0 w' pa pm s' ∧ Mld s s' a b t' ∧ s.steps ≤ s'.steps ∧ s'.steps ≤ s.steps + 11 ∧ ph t' ≤ ph a + ph b + 2 * bts (a.size + b.size) := by
  rcases hb.top with eb | tb
  · subst eb
    refine (meldT_same a.root (-1) (Or.inl rfl) w).mono ?_
    rintro e' w1 ⟨rfl, rfl⟩
    exact ⟨s, a, rfl, e, ⟨ha, by simp [cells], by simp [items], Tch.refl ok _⟩, Nat.le_refl _, by omega, by simp [ph]⟩
  · have br := rt_root tb
    rcases ha.top with ea | ta
    · subst ea
      refine (meldT_l b.root (by rw [br]; omega) w).mono ?_
      rintro e' w1 ⟨rfl, rfl⟩
      exact ⟨s, b, rfl, e, ⟨hb, by simp [cells], by simp [items], Tch.refl ok _⟩, Nat.le_refl _, by omega, by simp [ph]⟩
    · have ar := rt_root ta
      have row : Row s [a, b] := by
        refine ⟨fun x hx => ?_, fun x hx => ?_, fun x hx => ?_, by simpa using hd⟩
        · simp at hx; rcases hx with rfl | rfl; exact ha.vp; exact hb.vp
        · simp at hx; rcases hx with rfl | rfl; exact ta; exact tb
        · simp at hx; rcases hx with rfl | rfl; exact ha.ho; exact hb.ho
      have hne : a.root ≠ b.root := by
        rw [ar, br]
        intro z
        have c1 : rt a ∈ a.cells := root_mem ar
        have c2 : rt b ∈ b.cells := root_mem br
        have zz : rt a = rt b := by omega
        rw [List.nodup_append] at hd
        exact hd.2.2 _ c1 _ c2 zz
      obtain ⟨r1, t1, row1⟩ := row.link ok
      refine (meldT_nd a.root b.root (by rw [ar]; omega) (by rw [br]; omega) hne e hs).mono ?_
      rintro e' w1 ⟨rfl, e1⟩
      obtain ⟨tl, sl, pl⟩ := lnk_top (lt := befF (hasS s)) ta tb
      obtain ⟨p1, p2, _⟩ := lnk_cells (lt := befF (hasS s)) ta tb
      refine ⟨_, lnk (befF (hasS s)) a b, by rw [r1], e1, ⟨⟨row1.vp _ (by simp), Or.inr tl, row1.ho _ (by simp), p1.nodup_iff.2 hd⟩, p1, p2, t1⟩, by rw [link_steps]; omega, by rw [link_steps]; omega, ?_⟩
      rw [ph_top tl, ph_top ta, ph_top tb, pl, sl]
      have := bts_mono (show a.size + b.size - 1 ≤ a.size + b.size by omega)
      omega
theorem pMeldT (ht : Hpp s t) (hu : Hpp s u) (hd : (t.cells ++ u.cells).Nodup) (ok : Ok s) (e : Ex F w0 w pa pm s) (hs : s.steps ≤ 99990000) :
    Calls Try.prog 38 #[.pointer (some ⟨pa, 0, none⟩), .int .i64 t.root, .int .i64 u.root] w fun e w' => ∃ (s' : St) (t' : Tr), e = .returned (.int .i64 t'.root) ∧ Ex F w0 w' pa pm s' ∧ Mld s s' t u t' ∧ s.steps ≤ s'.steps ∧ s'.steps ≤ s.steps + 17 ∧ ph t' ≤ ph t + ph u + 2 * bts (t.size + u.size) := by
  have R1 := hid (rootT t.root e (by omega))
  rw [root_vp ht.vp ok] at R1
  have R2 := hid (fun (q : Nat) (w1 : World) (hq : q ≤ 3) (e1 : Ex F w0 w1 pa pm (tk s q)) => rootT (s := tk s q) u.root e1 (by show s.steps + q ≤ _; omega))
  have R3 := hid (show ∀ q, rootS (tk s q) u.root = u.root from fun q => root_vp (s := tk s q) hu.vp (Sm.tk ok q).ok)
  have M := hid (fun (q : Nat) (w1 : World) (hq : q ≤ 6) (e1 : Ex F w0 w1 pa pm (tk s q)) => pmeldT (ht.tk q) (hu.tk q) hd (Sm.tk ok q).ok e1 (by show s.steps + q ≤ _; omega))
  have OK := hid ok
  clear ht hu hd ok e
  obtain ⟨a, hA⟩ : ∃ a, a = t.root := ⟨_, rfl⟩
  obtain ⟨b, hB⟩ : ∃ b, b = u.root := ⟨_, rfl⟩
  rw [← hA] at R1 M ⊢
  rw [← hB] at R2 R3 M ⊢
  clear hA hB
  go_enter Try.func38, Try.ntmps38
  go_wp2_with fail
  refine R1.out.mono ?_
  rintro e w1 ⟨rfl, q1, hq1, e1⟩
  have D2 := hid (R2.out q1 w1 hq1 e1)
  rw [R3.out q1] at D2
  clear R1 R2 e1
  go_wp2_with fail
  refine D2.out.mono ?_
  rintro e w2 ⟨rfl, q2, hq2, e2⟩
  have D3 := hid (M.out (q1 + q2) w2 (by omega) (by rw [← tk_tk]; exact e2))
  clear D2 e2 M R3
  go_wp2_with fail
  refine D3.out.mono ?_
  rintro e w3 ⟨s', t', rfl, e3, m3, st1, st2, pp⟩
  have M3 := hid (m3.of_tk OK.out)
  have E3 := hid e3
  have ST := hid (show s.steps + (q1 + q2) ≤ s'.steps ∧ s'.steps ≤ s.steps + (q1 + q2) + 11 from ⟨st1, st2⟩)
  have PP := hid pp
  clear D3 e3 m3 st1 st2 pp
  generalize ht : t'.root = r at *
  have HT := hid ht
  clear ht
  go_wp2
  go_ret
  exact ⟨s', t', by rw [HT.out]; rfl, E3.out, M3.out, by have := ST.out; omega, by have := ST.out; omega, PP.out⟩
/-- Pop, of a heap -/
theorem ppopT (hp : Hpp s (nd n i k lf)) (ok : Ok s) (hlen : k.size ≤ 40000) (e : IsA w F pa pm s) (hs : s.steps ≤ 96000000) :
    Calls Try.prog 31 #[.pointer (some ⟨pa, 0, none⟩), .int .i64 (n : Int)] w fun e w' => ∃ (s' : St) (t' : Tr), e = .returned (.tuple #[.int .i64 t'.root, .int .i64 (i : Int)]) ∧ Aft F w w' pa pm s' ∧ Rmx s s' (nd n i k lf) t' n i ∧ s.steps ≤ s'.steps ∧ s'.steps + 34 * ph t' ≤ s.steps + 34 * ph (nd n i k lf) + 68 * bts (k.size + 1) + 25 := by
  have MI := hid (pminT hp ok (Ex.start e) (by omega))
  rw [show (nd n i k lf).root = (n : Int) from rfl, show itemr (nd n i k lf) = (i : Int) from rfl] at MI
  have RM := hid (fun (q : Nat) (w1 : World) (hq : q ≤ 4) (e1 : Ex F w w1 pa pm (tk s q)) => removeT (s := tk s q) (hp.tk q) (Sm.tk ok q).ok (by have := rts_size k; omega) e1.is (by show s.steps + q ≤ _; omega))
  have hi1 : ((i : Int) == -1) = false := by simp
  have HFL := hid e.lt
  have pb := rmv_ph (lt := befF (hasS s)) k
  have PB := hid pb
  have hm := bts_mono (show k.size ≤ k.size + 1 by omega)
  have HM := hid hm
  clear hp ok e pb hm
  go_enter Try.func31, Try.ntmps31
  go_wp2_with fail
  refine MI.out.mono ?_
  rintro e w1 ⟨rfl, q, hq, e1⟩
  have D := hid (RM.out q w1 hq e1)
  have E1 := hid e1
  clear MI RM e1
  go_wp2_with fail
  refine D.out.mono ?_
  rintro e w2 ⟨s', r, rfl, rm, a2⟩
  obtain ⟨h1, h2, h3, h4⟩ := rm.of_tk
  have A2 := hid ((E1.out.aft HFL.out).call (by
    have := a2.is
    exact this.widen (fun i hi => hi.elim (fun z => Or.inl (Or.inl z)) Or.inr) (Grow.lt (Grow.lt HFL.out E1.out.kept.size) a2.kept.size)) (a2.kept.mono fun i hi => Or.inl hi))
  have H1 := hid h1
  have H2 := hid h2
  have H3 := hid (And.intro h3 h4)
  clear D rm a2 h1 h2 h3 h4 E1
  go_wp2
  go_ret2
  refine ⟨s', rmv (befF (hasS s)) k, by rw [H1.out]; rfl, A2.out, H2.out, by have := H3.out; omega, ?_⟩
  have h3 := H3.out
  have pb := PB.out
  have hm := HM.out
  have e : ph (nd n i k lf) = bts (k.size + 1) + ph k := by simp [ph, size]
  rw [e]
  omega
theorem ppopT_none (ok : Ok s) (e : Ex F w0 w pa pm s) (hs : s.steps ≤ 97000000) :
    Calls Try.prog 31 #[.pointer (some ⟨pa, 0, none⟩), .int .i64 (-1)] w fun e w' => ∃ k : Nat, e = .returned (.tuple #[.int .i64 (-1), .int .i64 (-1)]) ∧ k ≤ 4 ∧ Ex F w0 w' pa pm (tk s k) := by
  have MI := hid (pminT (Hpp.nil s) ok e (by omega))
  rw [show (lf : Tr).root = -1 from rfl, show itemr lf = -1 from rfl] at MI
  clear ok e
  go_enter Try.func31, Try.ntmps31
  go_wp2_with fail
  refine MI.out.mono ?_
  rintro e w1 ⟨rfl, k, hk, e1⟩
  have E1 := hid e1
  have HK := hid hk
  clear MI e1 hk
  go_wp2
  go_ret2
  exact ⟨k, rfl, HK.out, E1.out⟩
end
end Go.Proofs.Ythfdooigljkfiaa

/- The walks of Push, Fall, Cut, of heaps. -/
namespace Go.Proofs.Ythfdooigljkfiaa
open Go.ChangeShapes Go.WideShapes Go.ChangeAt Go.RowKit
open Tr

section
variable {F : Nat → Prop} {w0 w w' : World} {pa pm : Nat} {s s' : St} {t u : Tr} {n i x j : Nat} {k : Tr}
theorem ppushT_no (i : Nat) (r : Int) (li : LS s i = true) (h9 : hasS s i 9 = -1) (hx : ¬ 0 ≤ nextS s) (e : IsA w F pa pm s) (hs : s.steps ≤ 99900000) :
    Calls Try.prog 21 #[.pointer (some ⟨pa, 0, none⟩), .int .i64 r, .int .i64 (i : Int)] w fun e w' =>
      e = .returned (.tuple #[.int .i64 r, .bool false]) ∧ Aft F w w' pa pm (takeS (tk s 1)) := by
  have NN := hid (nnewT_no (i : Int) li (cell_neg (j := 9) li (by decide) h9) hx (Aft.start e) (by omega))
  clear li h9 hx e
  go_enter Try.func21, Try.ntmps21
  go_wp2_with fail
  refine NN.out.mono ?_
  rintro e w1 ⟨rfl, a1⟩
  have A1 := hid a1
  clear NN a1
  go_wp2
  go_ret2
  exact ⟨rfl, A1.out⟩
set_option maxHeartbeats 2000000 in
theorem ppushT (i : Nat) (ht : Hpp s t) (li : LS s i = true) (h9 : hasS s i 9 = -1) (hi : i ∉ t.cells) (hx : 0 ≤ nextS s) (ok : Ok s) (e : IsA w F pa pm s) (hs : s.steps ≤ 99900000) :
    Calls Try.prog 21 #[.pointer (some ⟨pa, 0, none⟩), .int .i64 t.root, .int .i64 (i : Int)] w fun e w' =>
      ∃ (t' : Tr) (n : Nat) (s' : St), e = .returned (.tuple #[.int .i64 t'.root, .bool true]) ∧ Psh s s' t t' n i ∧ Aft F w w' pa pm s' ∧ s.steps ≤ s'.steps ∧ s'.steps ≤ s.steps + 18 ∧ ph t' ≤ ph t + 1 + 2 * bts (t.size + 1) := by
  obtain ⟨n, en, nl, t1, t2, hni, ok1, ln1, li1, vf, v6, v9, num1, ls1, oth1⟩ := puB_view ok li hx
  have cn : ∀ c ∈ t.cells, c ≠ n := fun c hc q => by have := ht.vp.live c hc; rw [q, nl] at this; cases this
  have ci : ∀ c ∈ t.cells, c ≠ i := fun c hc q => hi (q ▸ hc)
  have K1 : Hpp (puB s (i : Int)) t := ht.keep fun c hc => ⟨ls1 c (cn c hc), fun j => oth1 c j (cn c hc) (Or.inl (ci c hc))⟩
  have B1 : Hpp (puB s (i : Int)) (nd n i lf lf) := by
    refine ⟨⟨⟨ln1, li1, by rw [vf 0 (by decide)]; rfl, by rw [vf 1 (by decide)]; rfl, by rw [vf 2 (by decide)]; rfl, by rw [vf 3 (by decide)]; rfl, v6, v9⟩, trivial, trivial⟩, Or.inr rfl, trivial, ?_⟩
    simp [cells]; exact hni
  have D1 : (t.cells ++ (nd n i lf lf).cells).Nodup := by
    rw [List.nodup_append]
    refine ⟨ht.nod, B1.nod, fun a ha b hb e => ?_⟩
    simp [cells] at hb
    rcases hb with z | z
    · exact cn a ha (e.trans z)
    · exact ci a ha (e.trans z)
  have NN := hid (nnewT (i : Int) li (cell_neg (j := 9) li (by decide) h9) hx (by rw [en]; exact t1) t2 (ls_cl ok li) (by omega) (Aft.start e) (by omega))
  rw [show setS (setS (takeS (tk s 1)) (nextS s) 6 (i : Int)) (i : Int) 9 (nextS s) = puB s (i : Int) from rfl, en] at NN
  have st1 := puB_steps s (i : Int)
  have most1 := puB_most s (i : Int)
  have HFL := hid e.lt
  have R1 := hid (root_vp K1.vp ok1)
  have FACT := hid (show ∀ (q : Nat) (s' : St) (t' : Tr), Mld (tk (puB s (i : Int)) q) s' t (nd n i lf lf) t' → Psh s s' t t' n i from fun q s' t' m => by
    have tc := m.tch
    refine ⟨m.hp, ?_, ?_, tc.sm.ok, ?_, tc.sm.most.trans most1, nl, fun c => ?_, fun c j hj hc hq => ?_, fun c h1 h2 h3 j => ?_⟩
    · refine m.pc.trans ?_
      simp only [cells, List.append_nil]
      exact (List.perm_append_comm (l₁ := t.cells) (l₂ := [n, i]))
    · refine m.pi.trans ?_
      simp only [items, List.append_nil]
      exact (List.perm_append_comm (l₁ := t.items) (l₂ := [i]))
    · rw [cnt_sm (Sm.tk ok1 q).ok tc.sm]; exact num1
    · rw [tc.sm.ls, show LS (tk (puB s (i : Int)) q) = LS (puB s (i : Int)) from rfl]
      by_cases z : c = n
      · rw [if_pos z, z]; exact ln1
      · rw [if_neg z]; exact ls1 c z
    · rw [tc.key c j (by omega), show hasS (tk (puB s (i : Int)) q) = hasS (puB s (i : Int)) from rfl]; exact oth1 c j hc hq
    · rw [tc.out c (by simp [cells]; exact ⟨h1, h2, h3⟩), show hasS (tk (puB s (i : Int)) q) = hasS (puB s (i : Int)) from rfl]; exact oth1 c j h2 (Or.inl h3))
  have MT := hid (fun (q : Nat) (w3 : World) (G : Nat → Prop) (wz : World) (hq : q ≤ 3) (e3 : Ex G wz w3 pa pm (tk (puB s (i : Int)) q)) => pmeldT (K1.tk q) (B1.tk q) D1 (Sm.tk ok1 q).ok e3 (by show (puB s (i : Int)).steps + q ≤ _; rw [st1]; omega))
  have hb : ph (nd n i lf lf) = 1 := by simp only [ph, size, Nat.add_zero, Nat.zero_add]; rw [bts_half (by decide)]; simp [bts_zero]
  have hz : (nd n i lf lf).size = 1 := by simp [size]
  rw [hb, hz, show (nd n i lf lf).root = (n : Int) from rfl] at MT
  generalize puB s (i : Int) = s1 at *
  obtain ⟨d0, hd0⟩ : ∃ d0, d0 = t.root := ⟨_, rfl⟩
  rw [← hd0] at MT R1 ⊢
  clear ht li h9 hi hx ok e en nl t1 t2 hni ok1 ln1 li1 vf v6 v9 num1 ls1 oth1 cn ci K1 B1 D1 most1 hb hz hd0
  go_enter Try.func21, Try.ntmps21
  go_wp2_with fail
  refine NN.out.mono ?_
  rintro e w1 ⟨rfl, a1⟩
  have A1 := hid a1
  have RT := hid (rootT (s := s1) d0 (Ex.start a1.is) (by omega))
  rw [R1.out] at RT
  clear NN a1
  go_wp2_with fail
  refine RT.out.mono ?_
  rintro e w3 ⟨rfl, q, hq, e3⟩
  have D := hid (MT.out q w3 _ _ hq e3)
  clear RT MT e3
  go_wp2_with fail
  refine D.out.mono ?_
  rintro e w4 ⟨s', t', rfl, e4, M, st2, st3, pp⟩
  have P := hid (FACT.out q s' t' M)
  have A4 := hid (A1.out.back e4)
  have T1 := hid (show s1.steps + q ≤ s'.steps ∧ s'.steps ≤ s1.steps + q + 11 from ⟨st2, st3⟩)
  have PP := hid pp
  clear D e4 M st2 st3 pp FACT
  generalize hq : t'.root = d at *
  have HQ := hid hq
  clear hq
  go_wp2
  go_ret2
  exact ⟨t', n, s', by rw [HQ.out]; rfl, P.out, A4.out, by have := T1.out; omega, by have := T1.out; omega, PP.out⟩
/-- what Fall leaves -/
structure Fld (s s' : St) (t t' : Tr) : Prop where
  hp : Hpp s' t'
  pc : t'.cells.Perm t.cells
  pi : t'.items.Perm t.items
  tch : Tch s s' t.cells
theorem sub_size {x : Nat} {k : Tr} (hn : k.cells.Nodup) (hx : x ∈ k.nodes) : (del x k).size + (sub x k).size = k.size := (del_ph hn hx).2
/-- a child that has left is linked with the root -/
theorem fall_child (hv : Vp (LS s) (hasS s) (-1) (-1) (nd n i k lf)) (hn : (nd n i k lf).cells.Nodup) (ok : Ok s) (hx : x ∈ k.nodes) (o1 : Hu (befF (hasS s)) i (del x k)) (o2 : Ho (befF (hasS s)) (sub x k)) (e : Ex F w0 w pa pm (leaveS s (x : Int))) (hs : s.steps ≤ 99990000) :
    Calls Try.prog 43 #[.pointer (some ⟨pa, 0, none⟩), .int .i64 (n : Int), .int .i64 (x : Int)] w fun e w' => ∃ (s' : St) (t' : Tr), e = .returned (.int .i64 t'.root) ∧ Ex F w0 w' pa pm s' ∧ Fld s s' (nd n i k lf) t' ∧ s.steps ≤ s'.steps ∧ s'.steps ≤ s.steps + 19 ∧ ph t' ≤ ph (nd n i k lf) + 3 * bts (k.size + 1) := by
  obtain ⟨tc, v1, v2, _⟩ := leave_heap hv hn ok hx
  have row := leave_row hv hn ok hx o1 o2
  have hnd := nd_nodup hn
  obtain ⟨jj, kk, es⟩ := sub_top hnd.1 hx
  have pm' := del_perm hnd.1 hx
  have pd := del_ph hnd.1 hx
  have nod := row.nod
  rw [show [nd n i (del x k) lf, sub x k].flatMap cells = (nd n i (del x k) lf).cells ++ (sub x k).cells by simp] at nod
  have nod' := nod
  rw [List.nodup_append] at nod'
  have h1 : Hpp (leaveS s (x : Int)) (nd n i (del x k) lf) := ⟨v1, Or.inr rfl, row.ho _ (by simp), nod'.1⟩
  have h2 : Hpp (leaveS s (x : Int)) (sub x k) := ⟨v2, Or.inr (by rw [es]; rfl), row.ho _ (by simp), nod'.2.1⟩
  have M := pmeldT h1 h2 nod tc.sm.ok e (by rw [leave_steps]; omega)
  rw [show (nd n i (del x k) lf).root = (n : Int) from rfl, show (sub x k).root = (x : Int) by rw [es]; rfl] at M
  refine M.mono ?_
  rintro e' w1 ⟨s', t', rfl, e1, m, st1, st2, pp⟩
  rw [leave_steps] at st1 st2
  have pc1 : ((nd n i (del x k) lf).cells ++ (sub x k).cells).Perm (nd n i k lf).cells := by
    simp only [cells, List.append_nil, List.cons_append]
    exact .cons _ (.cons _ pm'.1.symm)
  have pi1 : ((nd n i (del x k) lf).items ++ (sub x k).items).Perm (nd n i k lf).items := by
    simp only [items, List.append_nil, List.cons_append]
    exact .cons _ pm'.2.1.symm
  refine ⟨s', t', rfl, e1, ⟨m.hp, m.pc.trans pc1, m.pi.trans pi1, tc.trans (m.tch.mono fun c hc => pc1.mem_iff.1 hc)⟩, by omega, by omega, ?_⟩
  have e2 : ph (sub x k) = bts (sub x k).size + phk (sub x k) := by rw [es]; simp [ph, phk, size]
  have e3 : ph (nd n i (del x k) lf) = bts ((del x k).size + 1) + ph (del x k) := by simp [ph, size]
  have e4 : ph (nd n i k lf) = bts (k.size + 1) + ph k := by simp [ph, size]
  have e5 : (nd n i (del x k) lf).size + (sub x k).size = k.size + 1 := by simp only [size]; omega
  rw [e5] at pp
  have b1 := bts_mono (show (del x k).size + 1 ≤ k.size + 1 by omega)
  have b2 := bts_mono (show (sub x k).size ≤ k.size + 1 by omega)
  have pd1 := pd.1
  omega
/-- Fall, where the key of the item is less already -/
theorem pfallT (hv : Vp (LS s) (hasS s) (-1) (-1) (nd n i k lf)) (hn : (nd n i k lf).cells.Nodup) (ok : Ok s) (hj : j ∈ (nd n i k lf).items) (h9 : hasS s j 9 = (x : Int)) (hxc : (x = n ∧ Ho (befF (hasS s)) (nd n i k lf)) ∨ (x ∈ k.nodes ∧ Hu (befF (hasS s)) i (del x k) ∧ Ho (befF (hasS s)) (sub x k))) (e : Ex F w0 w pa pm s) (hs : s.steps ≤ 99900000) :
    Calls Try.prog 26 #[.pointer (some ⟨pa, 0, none⟩), .int .i64 (n : Int), .int .i64 (j : Int)] w fun e w' => ∃ (s' : St) (t' : Tr), e = .returned (.int .i64 t'.root) ∧ Ex F w0 w' pa pm s' ∧ Fld s s' (nd n i k lf) t' ∧ s.steps ≤ s'.steps ∧ s'.steps ≤ s.steps + 24 ∧ ph t' ≤ ph (nd n i k lf) + 3 * bts (k.size + 1) := by
  have lj : LS s j = true := hv.live j (item_cell hj)
  have rn : rootS s (n : Int) = (n : Int) := root_vp hv ok
  have N := hid (nodeT (j : Int) e (by omega))
  rcases hxc with ⟨rfl, ho⟩ | ⟨hx, o1, o2⟩
  · have c9 : cellS s (j : Int) 9 = (x : Int) := cell_nat (j := 9) ok lj (by decide) h9 hv.1.1
    rw [c9] at N
    have c0 : cellS s (x : Int) 0 = -1 := cell_neg (j := 0) hv.1.1 (by decide) hv.1.2.2.1
    have B := hid (fun (w1 : World) (e1 : Ex F w0 w1 pa pm (tk s 1)) => belowT (s := tk s 1) (x : Int) (x : Int) e1 (by show s.steps + 1 ≤ _; omega))
    rw [show rootS (tk s 1) (x : Int) = (x : Int) from rn, show cellS (tk s 1) (x : Int) 0 = -1 from c0] at B
    simp only [bne_self_eq_false, Bool.and_false] at B
    have FI := hid (show ∀ q, Fld s (tk s q) (nd x i k lf) (nd x i k lf) from fun q => ⟨⟨hv, Or.inr rfl, ho, hn⟩, .refl _, .refl _, Tch.tk ok q _⟩)
    clear hv hn ok hj h9 ho e lj rn c9 c0
    go_enter Try.func26, Try.ntmps26
    go_wp2_with fail
    refine N.out.mono ?_
    rintro e w1 ⟨rfl, e1⟩
    have D := hid (B.out w1 e1)
    clear N B e1
    go_wp2_with fail
    refine D.out.mono ?_
    rintro e w2 ⟨rfl, q, hq, e2⟩
    have E2 := hid e2
    have HQ := hid hq
    clear D e2 hq
    go_wp2
    go_ret
    exact ⟨tk s (1 + q), nd x i k lf, rfl, by rw [← tk_tk]; exact E2.out, FI.out _, by show s.steps ≤ s.steps + (1 + q); omega, by have := HQ.out; show s.steps + (1 + q) ≤ _; omega, by omega⟩
  · have lx : LS s x = true := hv.2.1.live x (node_cell hx)
    have c9 : cellS s (j : Int) 9 = (x : Int) := cell_nat (j := 9) ok lj (by decide) h9 lx
    rw [c9] at N
    have c0 := (leave_heap hv hn ok hx).2.2.2
    have B := hid (fun (w1 : World) (e1 : Ex F w0 w1 pa pm (tk s 1)) => belowT (s := tk s 1) (n : Int) (x : Int) e1 (by show s.steps + 1 ≤ _; omega))
    have hb : (rootS (tk s 1) (n : Int) != -1 && cellS (tk s 1) (x : Int) 0 != -1) = true := by
      rw [show rootS (tk s 1) (n : Int) = (n : Int) from rn, show cellS (tk s 1) (x : Int) 0 = cellS s (x : Int) 0 from rfl]
      simp; exact c0
    rw [hb] at B
    have LV := hid (fun (q : Nat) (w1 : World) (hq : q ≤ 5) (e1 : Ex F w0 w1 pa pm (tk s q)) => leaveT (s := tk s q) (x : Int) e1 (by show s.steps + q ≤ _; omega))
    have FC := hid (fun (q : Nat) (w1 : World) (hq : q ≤ 5) (e1 : Ex F w0 w1 pa pm (leaveS (tk s q) (x : Int))) => fall_child (s := tk s q) hv hn (Sm.tk ok q).ok hx o1 o2 e1 (by show s.steps + q ≤ _; omega))
    have OK := hid ok
    clear hv hn ok hj h9 o1 o2 e lj rn c9 c0 hx lx hb
    go_enter Try.func26, Try.ntmps26
    go_wp2_with fail
    refine N.out.mono ?_
    rintro e w1 ⟨rfl, e1⟩
    have D := hid (B.out w1 e1)
    clear N B e1
    go_wp2_with fail
    refine D.out.mono ?_
    rintro e w2 ⟨rfl, q, hq, e2⟩
    have D2 := hid (LV.out (1 + q) w2 (by omega) (by rw [← tk_tk]; exact e2))
    clear D e2 LV
    go_wp2_with fail
    refine D2.out.mono ?_
    rintro e w3 ⟨rfl, e3⟩
    have D3 := hid (FC.out (1 + q) w3 (by omega) e3)
    clear D2 e3 FC
    go_wp2_with fail
    refine D3.out.mono ?_
    rintro e w4 ⟨s', t', rfl, e4, fl, st1, st2, pp⟩
    have E4 := hid e4
    have FL := hid (show Fld s s' (nd n i k lf) t' from ⟨fl.hp, fl.pc, fl.pi, fl.tch.of_tk OK.out⟩)
    have ST := hid (show s.steps + (1 + q) ≤ s'.steps ∧ s'.steps ≤ s.steps + (1 + q) + 19 from ⟨st1, st2⟩)
    have PP := hid pp
    clear D3 e4 fl st1 st2 pp
    generalize ht : t'.root = d at *
    have HT := hid ht
    clear ht
    go_wp2
    go_ret
    exact ⟨s', t', by rw [HT.out]; rfl, E4.out, FL.out, by have := ST.out; omega, by have := ST.out; omega, PP.out⟩
end
end Go.Proofs.Ythfdooigljkfiaa

/- The walk of Cut, of heaps. -/
namespace Go.Proofs.Ythfdooigljkfiaa
open Go.ChangeShapes Go.WideShapes Go.ChangeAt Go.RowKit
open Tr

theorem Rmx.of_tk {s s' : St} {q : Nat} {t t' : Tr} {n i : Nat} (h : Rmx (tk s q) s' t t' n i) : Rmx s s' t t' n i := ⟨h.hp, h.pc, h.pi, h.ok, h.num, h.most, h.ls, h.key, h.out⟩
/-- a child is cut: what is left, once its heap is one with what was below it -/
structure Ctd (s s2 : St) (n i x j : Nat) (k kk : Tr) : Prop where
  es : sub x k = nd x j kk lf
  h1 : Hpp s2 (nd n i (del x k) lf)
  h2 : Hpp s2 (nd x j kk lf)
  ok : Ok s2
  tch : Tch s s2 (nd n i k lf).cells
  nod : ((nd n i (del x k) lf).cells ++ (nd x j kk lf).cells).Nodup
  pc : (nd n i k lf).cells.Perm ((nd n i (del x k) lf).cells ++ (nd x j kk lf).cells)
  pi : (nd n i k lf).items.Perm ((nd n i (del x k) lf).items ++ (nd x j kk lf).items)
  ph : ph (del x k) + ph kk ≤ ph k
  sz : (del x k).size + (kk.size + 1) = k.size
theorem ctd_of {s : St} {n i x j : Nat} {k : Tr} (hp : Hpp s (nd n i k lf)) (ok : Ok s) (hx : x ∈ k.nodes) (h6 : hasS s x 6 = (j : Int)) : ∃ kk, Ctd s (leaveS s (x : Int)) n i x j k kk := by
  have hnd := nd_nodup hp.nod
  have o := del_hu (lt := befF (hasS s)) (u := i) hnd.1 hx hp.ho
  obtain ⟨tc, v1, v2, _⟩ := leave_heap hp.vp hp.nod ok hx
  have row := leave_row hp.vp hp.nod ok hx o.1 o.2
  obtain ⟨jj, kk, es⟩ := sub_top hnd.1 hx
  have pm' := del_perm hnd.1 hx
  have pd := del_ph hnd.1 hx
  have nod := row.nod
  rw [show [nd n i (del x k) lf, sub x k].flatMap cells = (nd n i (del x k) lf).cells ++ (sub x k).cells by simp] at nod
  have nod' := nod
  rw [List.nodup_append] at nod'
  have hj : jj = j := by
    have := v2
    rw [es] at this
    have e1 := this.1.2.2.2.2.2.2.1
    rw [tc.key x 6 (by decide), h6] at e1
    omega
  subst hj
  have h2 : Hpp (leaveS s (x : Int)) (sub x k) := ⟨v2, Or.inr (by rw [es]; rfl), row.ho _ (by simp), nod'.2.1⟩
  rw [es] at h2 nod pm' pd
  refine ⟨kk, es, ⟨v1, Or.inr rfl, row.ho _ (by simp), nod'.1⟩, h2, tc.sm.ok, tc, nod, ?_, ?_, pd.1, ?_⟩
  · have := pm'.1
    simp only [cells, List.append_nil, List.cons_append] at this ⊢
    exact .cons _ (.cons _ this)
  · have := pm'.2.1
    simp only [items, List.append_nil, List.cons_append] at this ⊢
    exact .cons _ this
  · have := pd.2
    simp only [size] at this; omega
theorem ctd_rm {s s2 s3 : St} {n i x j : Nat} {k kk : Tr} {r : Int} (ok0 : Ok s) (c : Ctd s s2 n i x j k kk) (m : Rmv s2 s3 x j kk r) :
    Hpp s3 (nd n i (del x k) lf) ∧ ((nd n i (del x k) lf).cells ++ (rmv (befF (hasS s2)) kk).cells).Nodup ∧ ∀ s4 t', Mld s3 s4 (nd n i (del x k) lf) (rmv (befF (hasS s2)) kk) t' → Rmx s s4 (nd n i k lf) t' x j := by
  obtain ⟨p1, p2, _⟩ := rmv_perm (lt := befF (hasS s2)) kk
  have hd := c.nod
  rw [List.nodup_append] at hd
  have hx : x ∈ (nd x j kk lf).cells := by simp [cells]
  have kc : ∀ c ∈ (rmv (befF (hasS s2)) kk).cells, c ∈ (nd x j kk lf).cells := fun c hc => by
    have := p1.mem_iff.1 hc
    simp [cells, this]
  refine ⟨c.h1.keep fun a ha => ⟨?_, fun z => m.out a (fun y => hd.2.2 a ha a y rfl) z⟩, ?_, fun s4 t' md => ?_⟩
  · rw [m.ls, if_neg (show ¬ a = x from fun z => hd.2.2 a ha x hx z)]
  · rw [List.nodup_append]
    exact ⟨hd.1, m.hp.nod, fun a ha b hb e => hd.2.2 a ha b (kc b hb) e⟩
  · have tc := md.tch
    refine ⟨md.hp, ?_, ?_, tc.sm.ok, ?_, ?_, fun c' => ?_, fun c' z hz => ?_, fun c' hc' z => ?_⟩
    · refine c.pc.trans ?_
      refine List.Perm.trans ?_ (.cons _ (.cons _ md.pc.symm))
      refine (List.perm_append_comm).trans ?_
      simp only [cells, List.append_nil]
      refine .cons _ (.cons _ ?_)
      exact (List.perm_append_comm).trans (List.Perm.append_left _ p1.symm)
    · refine c.pi.trans ?_
      refine List.Perm.trans ?_ (.cons _ md.pi.symm)
      refine (List.perm_append_comm).trans ?_
      simp only [items, List.append_nil]
      refine .cons _ ?_
      exact (List.perm_append_comm).trans (List.Perm.append_left _ p2.symm)
    · rw [cnt_sm m.ok tc.sm, m.num]
      exact cnt_sm ok0 c.tch.sm
    · rw [tc.sm.most, m.most, c.tch.sm.most]
    · rw [tc.sm.ls, m.ls, c.tch.sm.ls]
    · rw [tc.key c' z hz, m.key c' z hz, c.tch.key c' z hz]
    · have hn : c' ∉ (nd n i (del x k) lf).cells ++ (nd x j kk lf).cells := fun y => hc' (c.pc.mem_iff.2 y)
      rw [List.mem_append, not_or] at hn
      rw [tc.out c' (fun y => (List.mem_append.1 y).elim hn.1 fun y => hn.2 (kc c' y)), m.out c' hn.2, c.tch.out c' hc']
section
variable {F : Nat → Prop} {w w' : World} {pa pm : Nat} {s : St} {n i x j : Nat} {k : Tr}
end
end Go.Proofs.Ythfdooigljkfiaa

/- The walk of nodes: all of a heap, level by level. -/
namespace Go.Proofs.Ythfdooigljkfiaa
open Go.ChangeShapes Go.WideShapes Go.ChangeAt Go.RowKit
open Tr

/-- a node whose children are still to be gone through -/
def Sbn (s : St) : Tr → Prop
  | lf => False
  | nd c _ k r => r = lf ∧ LS s c = true ∧ hasS s c 1 = k.root ∧ Vp (LS s) (hasS s) (c : Int) (-1) k
theorem kids_sbn {s : St} : ∀ {k : Tr} {up q : Int}, Vp (LS s) (hasS s) up q k → ∀ a ∈ kidsL k, Sbn s a
  | lf, _, _, _, a, ha => by cases ha
  | nd n i k r, up, q, hv, a, ha => by
    rcases List.mem_cons.1 ha with rfl | ha
    · exact ⟨rfl, hv.1.1, hv.1.2.2.2.1, hv.2.1⟩
    · exact kids_sbn hv.2.2 a ha
/-- P: the nodes so far; a: how many of them are done; Q: what is below the others -/
structure Bfs (s : St) (t : Tr) (P : List Nat) (a : Nat) (Q : List Tr) : Prop where
  sb : ∀ q ∈ Q, Sbn s q
  eq : P.drop a = Q.map rt
  le : a ≤ P.length
  pm : (P.take a ++ Q.flatMap nodes).Perm t.nodes
theorem Bfs.start {s : St} {n i : Nat} {k : Tr} (hv : Vp (LS s) (hasS s) (-1) (-1) (nd n i k lf)) : Bfs s (nd n i k lf) [n] 0 [nd n i k lf] :=
  ⟨fun q hq => by rw [List.mem_singleton.1 hq]; exact ⟨rfl, hv.1.1, hv.1.2.2.2.1, hv.2.1⟩, rfl, Nat.zero_le _, by simp⟩
theorem Bfs.step {s : St} {t : Tr} {P : List Nat} {a c i : Nat} {k r : Tr} {Q : List Tr} (b : Bfs s t P a (nd c i k r :: Q)) : P[a]? = some c ∧ Bfs s t (P ++ rts k) (a + 1) (Q ++ kidsL k) := by
  obtain ⟨rfl, lc, _, vk⟩ := b.sb (nd c i k r) (by simp)
  have e := b.eq
  rw [List.map_cons] at e
  have hl : a < P.length := by
    rcases Nat.lt_or_ge a P.length with h | h
    · exact h
    · rw [List.drop_of_length_le h] at e; cases e
  have hd := List.drop_eq_getElem_cons hl
  rw [e] at hd
  injection hd with h1 h2
  have hP : P[a]? = some c := by rw [List.getElem?_eq_getElem hl, ← h1]; rfl
  refine ⟨hP, fun q hq => ?_, ?_, by rw [List.length_append]; omega, ?_⟩
  · rcases List.mem_append.1 hq with hq | hq
    · exact b.sb q (by simp [hq])
    · exact kids_sbn vk q hq
  · rw [List.drop_append_of_le_length (by omega), ← h2, List.map_append, rts_kids]
  · have pm := b.pm
    rw [List.take_append_of_le_length (by omega), List.take_add_one, hP]
    rw [List.flatMap_cons] at pm
    rw [List.flatMap_append, (kids_cells k).2.2]
    simp only [nodes, List.append_nil] at pm
    refine List.Perm.trans ?_ pm
    simp only [Option.toList_some, List.append_assoc, List.cons_append, List.nil_append]
    refine List.Perm.append_left _ (.cons _ ?_)
    exact List.perm_append_comm
theorem Bfs.len {s : St} {t : Tr} {P : List Nat} {a : Nat} {Q : List Tr} (b : Bfs s t P a Q) : P.length ≤ t.size := by
  have h1 := b.pm.length_eq
  have h2 : (P.drop a).length = Q.length := by rw [b.eq, List.length_map]
  have h3 : Q.length ≤ (Q.flatMap nodes).length := by
    have sb := b.sb
    clear b h1 h2
    induction Q with
    | nil => simp
    | cons q Q ih =>
      have h4 := sb q (by simp)
      have h5 := ih (fun q hq => sb q (by simp [hq]))
      cases q with
      | lf => exact absurd h4 id
      | nd c i k r => simp only [List.flatMap_cons, List.length_append, List.length_cons, nodes]; omega
  rw [List.length_append, size_nodes, List.length_take] at h1
  rw [List.length_drop] at h2
  have := b.le
  omega
theorem Bfs.all {s : St} {t : Tr} {P : List Nat} {Q : List Tr} (b : Bfs s t P P.length Q) : P.Perm t.nodes := by
  have e := b.eq
  rw [List.drop_of_length_le (Nat.le_refl _)] at e
  have hq : Q = [] := by cases Q with
    | nil => rfl
    | cons q Q => cases e
  have pm := b.pm
  rw [hq, List.take_of_length_le (Nat.le_refl _)] at pm
  simpa using pm

section
variable {F : Nat → Prop} {w w' : World} {pa pm : Nat} {s : St} {t : Tr}
set_option maxHeartbeats 2000000 in
theorem pnodesT (hp : Hpp s t) (hH : t.size ≤ 1000) (ok : Ok s) (hA : IsA w F pa pm s) (hs : s.steps ≤ 99600000) :
    Calls Try.prog 53 #[.pointer (some ⟨pa, 0, none⟩), .int .i64 t.root] w fun e w' =>
      ∃ v P k, e = .returned v ∧ Own w' w.heap.size v (nd1 P) ∧ P.Perm t.nodes ∧ k ≤ 3 + 4 * t.size ∧ Ex F w w' pa pm (tk s k) := by
  have R := hid (rootT t.root (Ex.start hA) (by omega))
  rw [root_vp hp.vp ok] at R
  have OK := hid ok
  have HFL := hid hA.lt
  cases t with
  | lf =>
    rw [show (lf : Tr).root = -1 from rfl] at R ⊢
    clear hp ok hA
    go_enter Try.func53, Try.ntmps53
    go_wp2_with fail
    refine R.out.mono ?_
    rintro e w1 ⟨rfl, k0, hk0, e1⟩
    have E1 := hid e1
    clear R e1
    go_wp2
    go_ret
    exact ⟨_, [], k0, rfl, Own.nil _ _, by simp [nodes], by omega, E1.out⟩
  | nd n i k r =>
    obtain rfl : r = lf := by
      rcases hp.top with z | z
      · cases z
      · exact z
    have B0 := hid (Bfs.start hp.vp)
    obtain ⟨t, ht⟩ : ∃ t, t = nd n i k lf := ⟨_, rfl⟩
    rw [← ht] at B0 hH ⊢
    rw [show (nd n i k lf).root = (n : Int) from rfl] at R
    rw [show t.root = (n : Int) by rw [ht]; rfl]
    obtain ⟨N, hN⟩ : ∃ N, N = t.size := ⟨_, rfl⟩
    have HN := hid hN
    rw [← hN] at hH ⊢
    have hr : ((n : Int) == -1) = false := by simp
    have HN1 : Hid (1 ≤ N) := hid (by rw [hN, ht]; simp only [size]; omega)
    clear hp ok ht hN
    have HA := hid hA
    clear hA
    go_enter Try.func53, Try.ntmps53
    go_wp2_with fail
    refine R.out.mono ?_
    rintro e w1 ⟨rfl, k0, hk0, e1⟩
    have A2 := hid (e1.is.kept ((Kept.refl (fun _ => False) w1).alloc (.cells #[.int .i64 (n : Int)] 3)) fun _ _ e => e)
    have K2 := hid (e1.kept.alloc (.cells #[.int .i64 (n : Int)] 3))
    have O2 := hid (show Own (w1.alloc (.cells #[.int .i64 (n : Int)] 3)) w.heap.size (.slice (some ⟨w1.heap.size, 0, none⟩) 1 1) (nd1 [n]) from own_lit0 w1 w.heap.size e1.kept.size [(n : Int)] (by simp) #[.int .i64 (n : Int)] rfl)
    clear R e1
    go_wp2_with fail
    go_loopw [5, 6] (fun lv av wr => ∃ (P : List Nat) (a k : Nat) (Q : List Tr), av = .int .i64 (a : Int) ∧ a ≤ P.length ∧ P.length ≤ N ∧ Hid (Bfs s t P a Q) ∧ Hid (Own wr w.heap.size lv (nd1 P)) ∧ k + 3 ≤ 3 + a + 3 * P.length ∧ Hid (IsA wr F pa pm (tk s k)) ∧ Hid (Kept F w wr)) (fun _ av _ => N - (intOf av).toNat)
    case atStart => exact ⟨[n], 0, k0, _, rfl, by simp, by have := HN1.out; simpa using this, B0, O2, by simp; omega, A2, K2⟩
    case round =>
      clear B0 O2 A2 K2
      obtain ⟨P, a, k, Q, rfl, haP, hPN, hB, ho, hk, hA, hK⟩ := hrel
      obtain ⟨la, lc, rfl⟩ := own_form ho.out
      have hnl : (nd1 P).length = P.length := nd1_len P
      rw [hnl]
      by_cases hlt : a < P.length
      · have hlt' : (a : Int) < (P.length : Int) := by omega
        obtain ⟨b, bi, bk, Q', rfl⟩ : ∃ b bi bk Q', Q = nd b bi bk lf :: Q' := by
          have e := hB.out.eq
          rw [List.drop_eq_getElem_cons hlt] at e
          cases Q with
          | nil => cases e
          | cons q Q' =>
            have := hB.out.sb q (by simp)
            cases q with
            | lf => exact absurd this id
            | nd b bi bk br => obtain ⟨rfl, _⟩ := this; exact ⟨b, bi, bk, Q', rfl⟩
        obtain ⟨_, lb, hb1, vb⟩ := hB.out.sb (nd b bi bk lf) (by simp)
        obtain ⟨hx, nb⟩ := hB.out.step
        have NB := hid nb
        have hxn := nd1_at hx
        obtain ⟨C, hC⟩ : ∃ C, C = rts bk := ⟨_, rfl⟩
        have hPC : (P ++ C).length ≤ N := by rw [HN.out, hC]; exact nb.len
        have hPCl : (P ++ C).length = P.length + C.length := List.length_append
        rcases (Own.lst ho.out) with ⟨a', c', e, y1, y2, y3, y4⟩
        rw [hnl] at e
        have e1 : la = a' ∧ lc = c' := by injection e; exact ⟨by assumption, by assumption⟩
        obtain ⟨e1, e2⟩ := e1
        subst e1 e2
        rcases y4 with y | ⟨bl, off, e2, hbl, hc⟩
        · have h1 : (nd1 P).length = 0 := by rw [y]; rfl
          omega
        · subst e2
          have c1 : wr.cell? ⟨bl, off + a, none⟩ = some (.int .i64 (b : Int)) := hc _ _ hxn
          have CH := hid (pchildT (s := tk s k) b bk vb (cell_root (s := s) (j := 1) OK.out lb (by decide) hb1 vb) lb (Sm.tk OK.out k).ok (by rw [← hC]; omega) hA.out (by show s.steps + k ≤ _; omega))
          rw [← hC] at CH NB
          have HO := hid (show Own wr w.heap.size (.slice (some ⟨bl, off, none⟩) P.length lc) (nd1 P) by have := ho.out; rwa [hnl] at this)
          have NM := hid (show nd1 (P ++ C) = nd1 P ++ nd1 C by simp [nd1])
          have HNL := hid hnl
          have HCL := hid (nd1_len C)
          clear hx hxn hc e y1 y2 y3 ho hnl vb lb hb1 nb hC
          go_wp2_with fail
          refine CH.out.mono ?_
          rintro e w3 ⟨v2, rfl, o2, a2, q2⟩
          have O2 := hid o2
          have A2 := hid (show IsA w3 F pa pm (tk s (k + (1 + 3 * C.length))) by rw [← tk_tk]; exact a2)
          have P2 := hid (show Own w3 w.heap.size (.slice (some ⟨bl, off, none⟩) P.length lc) (nd1 P) from own_kept HO.out q2 (fun i hi hF => by have := (World.ownsRow.lt HO.out i hi).1; have := HFL.out i hF; omega))
          have K2 := hid (hK.out.trans' q2)
          have hsz := K2.out.size
          have OA := hid (show w3.ownsRow w.heap.size 3 1 (.slice (some ⟨bl, off, none⟩) P.length lc) P.length (row int1 (nd1 P)) from by have := P2.out; unfold Own at this; rwa [HNL.out] at this)
          clear o2 a2 q2 CH HO hA hK
          go_wp2_with (at_builtin; refine wpList_append_lst rfl (.tmp 19) (.tmp 25) rfl w.heap.size _ _ P.length (row int1 (nd1 P)) (nd1 C) rfl rfl (by exact OA.out) (by exact O2.out.lst) (by rw [HCL.out]; omega) hsz ?_; intro v4 w4 o4 g4; have O4 := hid o4; have G4 := hid g4; clear o4 g4)
          have hrow : ∀ i, (Value.slice (some ⟨bl, off, none⟩) P.length lc).ownBlock = some i → w.heap.size ≤ i := fun i hi => (World.ownsRow.lt OA.out i hi).1
          have K4 := hid (K2.out.grown G4.out (fun i hi => Or.inr (hrow i hi)))
          have A4 := hid (A2.out.kept ((Kept.refl (fun i => w.heap.size ≤ i) w3).grown G4.out (fun i hi => Or.inl (hrow i hi))) (fun i hF hi => by have := HFL.out i hF; omega))
          have L4 := hid (show Own w4 w.heap.size v4 (nd1 (P ++ C)) from by
            have := O4.out
            unfold Own
            rw [NM.out, row_append, List.length_append, HNL.out]
            exact this)
          clear O4 G4 hrow OA K2 A2 P2 O2
          go_wp2
          go_roundw
          case rel => exact ⟨P ++ C, a + 1, k + (1 + 3 * C.length), _, by go_num, by omega, hPC, NB, L4, by omega, A4, K4⟩
          case measure => simp [intOf]; omega
      · obtain rfl : a = P.length := by omega
        have AL := hid (Bfs.all hB.out)
        have hlP := hB.out.len
        have hk2 : k ≤ 3 + 4 * N := by have := HN.out; omega
        have HO := hid (show Own wr w.heap.size (.slice la P.length lc) (nd1 P) by have := ho.out; rwa [hnl] at this)
        clear ho hnl hlP hB
        go_wp2
        go_ret
        exact ⟨_, P, k, rfl, HO.out, AL.out, hk2, hA.out, hK.out⟩
end
end Go.Proofs.Ythfdooigljkfiaa
