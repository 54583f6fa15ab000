/- Several texts in one. -/
import Derived.Test.YthfdooigljkfiaaGe
import Derived.Test.YthfdooigljkfiaaGb
import Derived.Test.YthfdooigljkfiaaGc
/- The second pass of merge: from the last one back. -/
namespace Go.Proofs.Ythfdooigljkfiaa
open Go.ChangeShapes Go.WideShapes Go.ChangeAt Go.RowKit
open Tr

/-- what meld of r and t does -/
def mstep (p : St × Int) (x : Nat × Int) : St × Int := if x.2 = -1 ∨ p.2 = x.2 then p else if p.2 = -1 then (p.1, x.2) else (linkS p.1 p.2 x.2, linkR p.1 p.2 x.2)
theorem mstep_steps (p : St × Int) (x : Nat × Int) : p.1.steps ≤ (mstep p x).1.steps ∧ (mstep p x).1.steps ≤ p.1.steps + 11 := by
  unfold mstep
  split
  · exact ⟨Nat.le_refl _, by omega⟩
  · split
    · exact ⟨Nat.le_refl _, by show p.1.steps ≤ _; omega⟩
    · simp only [link_steps]; omega
theorem mfold_steps : ∀ (l : List (Nat × Int)) (p : St × Int), p.1.steps ≤ (l.foldl mstep p).1.steps ∧ (l.foldl mstep p).1.steps ≤ p.1.steps + 11 * l.length
  | [], p => ⟨Nat.le_refl _, Nat.le_refl _⟩
  | x :: r, p => by
    have h1 := mstep_steps p x
    have h2 := mfold_steps r (mstep p x)
    simp only [List.foldl_cons, List.length_cons]
    omega
section
variable {F : Nat → Prop} {w0 w w' : World} {pa pm : Nat} {s : St}
theorem meldT (i : Nat) (r t : Int) (h : Ex F w0 w pa pm s) (hs : s.steps ≤ 99999000) :
    Calls Try.prog 43 #[.pointer (some ⟨pa, 0, none⟩), .int .i64 r, .int .i64 t] w fun e w' => e = .returned (.int .i64 (mstep (s, r) (i, t)).2) ∧ Ex F w0 w' pa pm (mstep (s, r) (i, t)).1 := by
  by_cases q : t = -1 ∨ r = t
  · refine (meldT_same r t q w).mono ?_
    rintro e w1 ⟨rfl, rfl⟩
    rw [show mstep (s, r) (i, t) = (s, r) from if_pos q]
    exact ⟨rfl, h⟩
  · have q1 : t ≠ -1 := fun e => q (Or.inl e)
    have q2 : r ≠ t := fun e => q (Or.inr e)
    by_cases z : r = -1
    · subst z
      refine (meldT_l t q1 w).mono ?_
      rintro e w1 ⟨rfl, rfl⟩
      rw [show mstep (s, -1) (i, t) = (s, t) from (if_neg q).trans (if_pos rfl)]
      exact ⟨rfl, h⟩
    · refine (meldT_nd r t z q1 q2 h hs).mono ?_
      rintro e w1 ⟨rfl, e1⟩
      rw [show mstep (s, r) (i, t) = (linkS s r t, linkR s r t) from (if_neg q).trans (if_neg z)]
      exact ⟨rfl, e1⟩
end

/-- one heap, if there is any -/
def mgl (lt : Nat → Nat → Bool) (D : List Tr) : List Tr := if D = [] then [] else [mg lt D]
/-- k of them are one -/
structure Ps2 (lt : Nat → Nat → Bool) (s0 : St) (p : St × Int) (C : List Nat) (T D : List Tr) : Prop where
  row : Row p.1 (mgl lt D ++ T)
  ok : Ok p.1
  tch : Tch s0 p.1 C
  root : p.2 = (mg lt D).root
theorem Ps2.step {s0 : St} {p : St × Int} {C : List Nat} {T D : List Tr} {x : Tr} {i : Nat} (h : Ps2 (befF (hasS s0)) s0 p C (T ++ [x]) D) (hC : ∀ a ∈ mgl (befF (hasS s0)) D ++ (T ++ [x]), ∀ c ∈ a.cells, c ∈ C) : Ps2 (befF (hasS s0)) s0 (mstep p (i, x.root)) C T (x :: D) := by
  have hx := h.row.top x (by simp)
  have hxr := rt_root hx
  have xn : ¬ x.root = -1 := by rw [hxr]; omega
  by_cases e : D = []
  · subst e
    have hr : p.2 = -1 := h.root
    have hm : mstep p (i, x.root) = (p.1, x.root) := by
      unfold mstep
      rw [if_neg (by rw [hr]; intro z; rcases z with z | z; exact xn z; exact xn z.symm), if_pos hr]
    rw [hm]
    refine ⟨?_, h.ok, h.tch, ?_⟩
    · have : mgl (befF (hasS s0)) [x] = [x] := by unfold mgl; rw [if_neg (by simp)]; rfl
      rw [this]
      refine h.row.perm ?_
      rw [show mgl (befF (hasS s0)) [] = [] from rfl, List.nil_append]
      exact List.perm_append_comm
    · rfl
  · have hD : mgl (befF (hasS s0)) D = [mg (befF (hasS s0)) D] := by unfold mgl; rw [if_neg e]
    have hr := h.row
    rw [hD] at hr hC
    have p1 : ([mg (befF (hasS s0)) D] ++ (T ++ [x])).Perm (mg (befF (hasS s0)) D :: x :: T) := by
      rw [List.singleton_append]
      exact .cons _ (List.perm_append_comm (l₁ := T) (l₂ := [x]))
    have hr2 := hr.perm p1
    have hm := hr2.top (mg (befF (hasS s0)) D) (by simp)
    have hmr := rt_root hm
    have hne : ¬ (mg (befF (hasS s0)) D).root = x.root := by
      rw [hmr, hxr]
      intro z
      have hnd := hr2.nod
      rw [List.flatMap_cons, List.flatMap_cons, List.nodup_append] at hnd
      have c1 : rt (mg (befF (hasS s0)) D) ∈ (mg (befF (hasS s0)) D).cells := root_mem hmr
      have c2 : rt x ∈ x.cells := root_mem hxr
      have zz : rt (mg (befF (hasS s0)) D) = rt x := by omega
      exact hnd.2.2 _ c1 _ (List.mem_append_left _ c2) zz
    have hst : mstep p (i, x.root) = (linkS p.1 (mg (befF (hasS s0)) D).root x.root, linkR p.1 (mg (befF (hasS s0)) D).root x.root) := by
      unfold mstep
      rw [h.root]
      rw [if_neg (fun z => z.elim xn hne), if_neg (by rw [hmr]; omega)]
    obtain ⟨e1, t, r⟩ := hr2.link h.ok
    rw [h.tch.bef] at e1 r
    rw [hst]
    have hmx : mg (befF (hasS s0)) (x :: D) = lnk (befF (hasS s0)) (mg (befF (hasS s0)) D) x := rfl
    refine ⟨?_, t.sm.ok, h.tch.trans (t.mono fun c hc => ?_), ?_⟩
    · have : mgl (befF (hasS s0)) (x :: D) = [lnk (befF (hasS s0)) (mg (befF (hasS s0)) D) x] := by unfold mgl; rw [if_neg (by simp), hmx]
      rw [this]
      exact r
    · rcases List.mem_append.1 hc with hc | hc
      · exact hC _ (by simp) c hc
      · exact hC x (by simp) c hc
    · rw [hmx]; exact e1
theorem mgl_cells {lt : Nat → Nat → Bool} {D : List Tr} (h : ∀ a ∈ D, Top a) : ((mgl lt D).flatMap cells).Perm (D.flatMap cells) := by
  unfold mgl
  split
  · rename_i e; rw [e]
  · rw [List.flatMap_cons, List.flatMap_nil, List.append_nil]; exact (mg_perm h).1
/-- all of them -/
theorem Ps2.fold {s0 s : St} {C : List Nat} {M : List Tr} (h : Ps2 (befF (hasS s0)) s0 (s, -1) C M []) (hM : ∀ a ∈ M, Top a) (hC : ∀ a ∈ M, ∀ c ∈ a.cells, c ∈ C) : ∀ k, k ≤ M.length → Ps2 (befF (hasS s0)) s0 ((dn M.length (nd1 (M.map rt)) k).foldl mstep (s, -1)) C (M.take (M.length - k)) (M.drop (M.length - k))
  | 0, _ => by
    rw [Nat.sub_zero, List.take_of_length_le (Nat.le_refl _), List.drop_of_length_le (Nat.le_refl _)]
    exact h
  | k + 1, hk => by
    have ih := Ps2.fold h hM hC k (by omega)
    obtain ⟨j, hj⟩ : ∃ j, j = M.length - (k + 1) := ⟨_, rfl⟩
    have hj1 : M.length - k = j + 1 := by omega
    have hx : M[j]? = some (M[j]'(by omega)) := List.getElem?_eq_getElem _
    generalize (M[j]'(by omega)) = x at hx
    have hxM : x ∈ M := List.mem_of_getElem? hx
    rw [hj1, List.take_add_one, hx] at ih
    simp only [Option.toList_some] at ih
    have hd : M.drop j = x :: M.drop (j + 1) := by
      obtain ⟨hl, e⟩ := List.getElem?_eq_some_iff.1 hx
      rw [List.drop_eq_getElem_cons hl, e]
    have hz : (nd1 (M.map rt))[j]?.getD 0 = x.root := by
      rw [nd1_at (x := rt x) (by rw [List.getElem?_map, hx]; rfl), rt_root (hM x hxM)]; rfl
    have hst := ih.step (i := j) fun a ha c hc => by
      rcases List.mem_append.1 ha with ha | ha
      · have := (mgl_cells (lt := befF (hasS s0)) (D := M.drop (j + 1)) fun a ha => hM a (List.mem_of_mem_drop ha)).mem_iff.1 (List.mem_flatMap.2 ⟨a, ha, hc⟩)
        obtain ⟨b, hb, hcb⟩ := List.mem_flatMap.1 this
        exact hC b (List.mem_of_mem_drop hb) c hcb
      · rcases List.mem_append.1 ha with ha | ha
        · exact hC a (List.mem_of_mem_take ha) c hc
        · rw [List.mem_singleton.1 ha] at hc; exact hC x hxM c hc
    simp only [dn, List.foldl_append, List.foldl_cons, List.foldl_nil]
    rw [← hj, show M.length - 1 - k = j by omega, hz, hd]
    exact hst
/-- both passes -/
structure Mgd (s s' : St) (K : List Tr) (r : Int) : Prop where
  root : r = (mg (befF (hasS s)) (prs (befF (hasS s)) K)).root
  tch : Tch s s' (K.flatMap cells)
  row : Row s' (mgl (befF (hasS s)) (prs (befF (hasS s)) K))
  lo : s.steps ≤ s'.steps
  hi : s'.steps ≤ s.steps + 11 * K.length
theorem ps1_finish {s s' : St} {K P R : List Tr} (hK : ∀ a ∈ K, Top a) (p : Ps1 (befF (hasS s)) s s' K P R) (hM : prs (befF (hasS s)) K = P ++ R) :
    Mgd s ((dn (P ++ R).length (nd1 ((P ++ R).map rt)) (P ++ R).length).foldl mstep (s', -1)).1 K ((dn (P ++ R).length (nd1 ((P ++ R).map rt)) (P ++ R).length).foldl mstep (s', -1)).2 := by
  have st : Ps2 (befF (hasS s)) s (s', -1) (K.flatMap cells) (P ++ R) [] := ⟨by rw [show mgl (befF (hasS s)) [] = [] from rfl, List.nil_append]; exact p.row, p.ok, p.tch, rfl⟩
  have f := st.fold p.row.top (p.sub hK) (P ++ R).length (Nat.le_refl _)
  rw [Nat.sub_self, List.take_zero, List.drop_zero] at f
  have h1 := mfold_steps (dn (P ++ R).length (nd1 ((P ++ R).map rt)) (P ++ R).length) (s', -1)
  rw [dn_length] at h1
  have h2 := p.hi
  have h3 := p.lo
  have h4 : (P ++ R).length = P.length + R.length := List.length_append
  refine ⟨by rw [f.root, hM], f.tch, ?_, Nat.le_trans h3 h1.1, ?_⟩
  · have := f.row
    rw [List.append_nil] at this
    rw [hM]; exact this
  · have := h1.2
    rw [h4] at this
    simp only at this
    rw [← h4] at this
    omega
end Go.Proofs.Ythfdooigljkfiaa

/- The walk of merge. -/
namespace Go.Proofs.Ythfdooigljkfiaa
open Go.ChangeShapes Go.WideShapes Go.ChangeAt Go.RowKit Go.Shelf
open Tr
attribute [local go_sem] Oper.semAt_some

section
variable {F : Nat → Prop} {w w' : World} {pa pm : Nat} {s : St}
set_option maxHeartbeats 4000000 in
set_option maxRecDepth 100000 in
theorem mergeT (K : List Tr) (v : Value) (hr : Row s K) (ok : Ok s) (hv : Own w 0 v (nd1 (K.map rt))) (hF : ∀ b, v.ownBlock = some b → ¬ F b) (hlen : K.length ≤ 40000) (h : IsA w F pa pm s) (hs : s.steps ≤ 99000000) :
    Calls Try.prog 67 #[.pointer (some ⟨pa, 0, none⟩), v] w fun e w' =>
      ∃ (s' : St) (r : Int), e = .returned (.int .i64 r) ∧ IsA w' F pa pm s' ∧ Kept F w w' ∧ Mgd s s' K r := by
  obtain ⟨va, vc, hv'⟩ := own_form hv
  have HLV := hid hv
  have hnl : (nd1 (K.map rt)).length = K.length := by simp [nd1]
  rw [hnl] at hv'
  subst hv'
  have HFL := hid h.lt
  have P0 := hid (Ps1.start hr ok)
  have hcap : K.length ≤ vc := by
    rcases (Own.lst hv) with ⟨a', c', e, y1, y2, y3, y4⟩
    have e1 : vc = c' := by injection e
    rw [e1]
    omega
  have CL0 : Hid (vc ≤ maxLen ∧ (va = none → vc = 0)) := hid (by
    rcases (Own.lst hv) with ⟨a', c', e, y1, y2, y3, y4⟩
    have e1 : va = a' ∧ vc = c' := by injection e with e1 e2 e3; exact ⟨e1, e3⟩
    rw [e1.1, e1.2]
    exact ⟨y2, y3⟩)
  have RD : Hid (∀ (j : Nat) (x : Tr), K[j]? = some x → ∃ g o, va = some ⟨g, o, none⟩ ∧ g < w.heap.size ∧ ¬ F g ∧ w.cell? ⟨g, o + j, none⟩ = some (.int .i64 (rt x : Int))) := hid fun j x hx => by
    obtain ⟨g, cap, e, hg, _, hcell⟩ := own1_at (l := nd1 (K.map rt)) hv int1_len (nd1_at (x := rt x) (by rw [List.getElem?_map, hx]; rfl))
    rw [hnl] at e
    have e1 : va = some ⟨g, 0, none⟩ := by injection e
    exact ⟨g, 0, e1, hg, hF g (by rw [e1]; rfl), by rw [Nat.zero_add]; exact hcell⟩
  have A0 := hid (h.kept ((Kept.refl (fun _ => False) w).alloc (.cells #[.pointer (some ⟨pa, 0, none⟩)] 29)) fun _ _ e => e)
  have B0 := hid (heap_alloc_new w (.cells #[.pointer (some ⟨pa, 0, none⟩)] 29))
  have K0 := hid ((Kept.refl F w).alloc (.cells #[.pointer (some ⟨pa, 0, none⟩)] 29))
  have HTOP := hid hr.top
  obtain ⟨bx, hbx⟩ : ∃ bx, bx = w.heap.size := ⟨_, rfl⟩
  have HBX := hid hbx
  rw [← hbx] at B0
  have hbxw : w.heap.size = bx := hbx.symm
  clear hr ok hv hF h hnl hbx
  refine (callsIn_wide (n := 6)).1 ?_
  refine callsIn_of_wp_marks Try.func67 rfl trivial ?_ rfl
  simp only [Try.ntmps67, List.size_toArray, List.length_cons, List.length_nil, Nat.reduceAdd, Nat.reduceSub, Array.replicate_succ, Array.replicate_zero, List.push_toArray, List.append_toArray, List.nil_append, List.cons_append]
  refine wpIn_wide.2 ?_
  go_wp2_with fail
  go_loopw [1, 5] (fun lv pv wr => ∃ (P R : List Tr) (a : Option Addr) (c : Nat) (s' : St), lv = .slice a R.length c ∧ R.length ≤ c ∧ R.length ≤ K.length ∧ Hid (c ≤ maxLen ∧ (a = none → c = 0)) ∧ Hid (∀ (j : Nat) (x : Tr), R[j]? = some x → ∃ g o, a = some ⟨g, o, none⟩ ∧ g < w.heap.size ∧ ¬ F g ∧ w.cell? ⟨g, o + j, none⟩ = some (.int .i64 (rt x : Int))) ∧ Hid (Ps1 (befF (hasS s)) s s' K P R) ∧ Hid (Own wr (bx + 1) pv (nd1 (P.map rt))) ∧ Hid (IsA wr F pa pm s') ∧ Hid (Kept F w wr) ∧ Hid (wr.heap[bx]? = some (.cells #[.pointer (some ⟨pa, 0, none⟩)] 29))) (fun lv _ _ => lenV lv)
  case atStart => exact ⟨[], K, va, vc, s, rfl, hcap, Nat.le_refl _, CL0, RD, P0, hid (Own.nil _ _), A0, K0, B0⟩
  case round =>
    clear A0 B0 K0 P0 RD
    obtain ⟨P, R, a, c, s', rfl, hRc, hRK, hCL, hRD, hP, hO, hA, hK, hB⟩ := hrel
    have hPl := hP.out.len
    rcases (show R.length ≤ 1 ∨ 2 ≤ R.length by omega) with hlt | hlt
    · have hle : ¬ 1 < R.length := by omega
      have hle2 : ¬ (1 : Int) < (R.length : Int) := by omega
      obtain ⟨pa5, pc5, rfl⟩ := own_form hO.out
      have hnp : (nd1 (P.map rt)).length = P.length := by simp [nd1]
      have OA := hid (show wr.ownsRow (bx + 1) 3 1 (.slice pa5 P.length pc5) P.length (row int1 (nd1 (P.map rt))) from by have := hO.out; unfold Own at this; rwa [hnp] at this)
      rw [hnp]
      have hlR : (nd1 (R.map rt)).length = R.length := by simp [nd1]
      have LR : Hid (Lst wr (.slice a R.length c) (nd1 (R.map rt))) := hid ⟨a, c, by rw [hlR], by rw [hlR]; exact hRc, hCL.out.1, hCL.out.2, by
        cases R with
        | nil => exact Or.inl rfl
        | cons x R' =>
          obtain ⟨g, o, rfl, hg, hgF, _⟩ := hRD.out 0 x rfl
          refine Or.inr ⟨g, o, rfl, Nat.lt_of_lt_of_le hg hK.out.size, fun j z hz => ?_⟩
          have hj : j < (x :: R').length := by
            have := (List.getElem?_eq_some_iff.1 hz).1
            simpa [nd1] using this
          obtain ⟨y, hy⟩ : ∃ y, (x :: R')[j]? = some y := ⟨_, List.getElem?_eq_getElem hj⟩
          obtain ⟨g', o', e, _, _, hc⟩ := hRD.out j y hy
          have e2 : g = g' ∧ o = o' := by injection e with e; injection e with q1 q2; exact ⟨q1, q2⟩
          obtain ⟨rfl, rfl⟩ := e2
          rw [nd1_at (x := rt y) (by rw [List.getElem?_map, hy]; rfl)] at hz
          injection hz with hz
          rw [← hz]
          exact (hK.out.cell (p := ⟨g, o + j, none⟩) hg hgF).trans hc⟩
      have hPR : P.length + R.length ≤ 40000 := by omega
      have hwz : bx + 1 ≤ wr.heap.size := lt_of_block hB.out
      have hMP : prs (befF (hasS s)) K = P ++ R := by
        rw [hP.out.prs]
        cases R with
        | nil => rfl
        | cons x R' =>
          cases R' with
          | nil => rfl
          | cons y R' => simp at hle
      have HMP := hid hMP
      have HLR := hid hlR
      have HO2 := hid (fun i hi => World.ownsRow.lt OA.out i hi)
      clear hnp hMP hlR hRD
      go_wp2_with (at_builtin; refine wpList_append_lst rfl (.tmp 25) (.tmp 26) rfl (bx + 1) _ _ P.length (row int1 (nd1 (P.map rt))) (nd1 (R.map rt)) rfl rfl (by exact OA.out) (by exact LR.out) (by rw [HLR.out]; omega) hwz ?_; intro v5 w5 o5 g5; have O5 := hid o5; have G5 := hid g5; clear o5 g5)
      obtain ⟨M, hM⟩ : ∃ M, M = P ++ R := ⟨_, rfl⟩
      have HM := hid hM
      have hMl : M.length = P.length + R.length := by rw [hM]; simp
      have hm5 : M.length ≤ 40000 := by omega
      obtain ⟨m, hm⟩ : ∃ m, m = M.length := ⟨_, rfl⟩
      have HMm := hid hm
      have L5 := hid (show Own w5 (bx + 1) v5 (nd1 (M.map rt)) from by
        have := O5.out
        unfold Own
        rw [hM, List.map_append, nd1_app, row_append, List.length_append]
        rw [nd1_len, List.length_map, HLR.out]
        rw [HLR.out] at this
        exact this)
      have K5 := hid (hK.out.grown G5.out (fun i hi => Or.inr (by have := (HO2.out i hi).1; have := HBX.out; omega)))
      have KK5 := ((Kept.refl (fun i => bx + 1 ≤ i) wr).grown G5.out (fun i hi => Or.inl (HO2.out i hi).1))
      have A5 := hid (hA.out.kept KK5 (fun i hF hi => by have := HFL.out i hF; have := HBX.out; have : bx + 1 ≤ i := hi; omega))
      have B5 := hid ((KK5.block bx hwz (by show ¬ bx + 1 ≤ bx; omega)).trans hB.out)
      obtain ⟨va5, vc5, hv5⟩ := own_form L5.out
      have hml : (nd1 (M.map rt)).length = m := by rw [hm]; simp [nd1]
      rw [hml] at hv5
      subst hv5
      have DG : ∃ dg, (0 < m → va5 = some ⟨dg, 0, none⟩) ∧ bx ≤ dg ∧ dg < w5.heap.size ∧ ∀ j, j < m → w5.cell? ⟨dg, j, none⟩ = some (.int .i64 ((nd1 (M.map rt))[j]?.getD 0)) := by
        by_cases e : m = 0
        · exact ⟨bx, fun z => by omega, Nat.le_refl _, lt_of_block B5.out, fun j hj => by omega⟩
        · have at0 : ∀ j, j < m → ∃ g, va5 = some ⟨g, 0, none⟩ ∧ bx + 1 ≤ g ∧ g < w5.heap.size ∧ w5.cell? ⟨g, j, none⟩ = some (.int .i64 ((nd1 (M.map rt))[j]?.getD 0)) := fun j hj => by
            obtain ⟨x, hx⟩ : ∃ x, (nd1 (M.map rt))[j]? = some x := ⟨_, List.getElem?_eq_getElem (by rw [hml]; exact hj)⟩
            obtain ⟨g, cap, e, hg, _, hcell⟩ := own1_at L5.out int1_len hx
            rw [hml] at e
            have e1 : va5 = some ⟨g, 0, none⟩ := by injection e
            refine ⟨g, e1, (World.ownsRow.lt L5.out g (by rw [e1]; rfl)).1, hg, ?_⟩
            rw [hx]
            exact hcell
          obtain ⟨g, e1, g1, g2, _⟩ := at0 0 (by omega)
          refine ⟨g, fun _ => e1, by omega, g2, fun j hj => ?_⟩
          obtain ⟨g', e1', _, _, hc⟩ := at0 j hj
          have : g = g' := by rw [e1] at e1'; injection e1' with q; injection q
          rw [this]; exact hc
      obtain ⟨dg, ha5, hdg1, hdg2, hcs⟩ := DG
      rw [← hm] at hm5
      refine (callsIn_wide.1 (backward_in Fence.wide 6 trivial rfl va5 m vc5 _)).mono ?_
      rintro e w' ⟨rfl, rfl⟩
      obtain ⟨pv, hpv⟩ : ∃ pv, pv = Value.slice pa5 P.length pc5 := ⟨_, rfl⟩
      obtain ⟨rv, hrv⟩ : ∃ rv, rv = Value.slice a R.length c := ⟨_, rfl⟩
      obtain ⟨rl, hrl⟩ : ∃ rl, rl = Value.int .i64 (R.length : Int) := ⟨_, rfl⟩
      rw [← hpv, ← hrv, ← hrl]
      have P5 := hid (show Mgd s ((dn m (nd1 (M.map rt)) m).foldl mstep (s', -1)).1 K ((dn m (nd1 (M.map rt)) m).foldl mstep (s', -1)).2 from by have := ps1_finish HTOP.out hP.out HMP.out; rw [← hM, ← hm] at this; exact this)
      have ST5 := hid (show s'.steps ≤ 99500000 by have := hP.out.hi; omega)
      clear O5 G5 KK5 hA hK hB hO OA LR HO2 hml hMl hPR hm hM hP hRc hRK hCL hPl hlt hle hle2 hwz L5 hpv hrv hrl
      go_wp2_with fail
      refine (wpIn_wide (n := 6)).1 ?_
      obtain ⟨w3, hw3⟩ : ∃ w3, w3 = ((w5.alloc (Obj.cells #[Value.int IntKind.i64 (-1)] 3)).alloc (Obj.cells #[Value.slice va5 m vc5] 23)) := ⟨_, rfl⟩
      have sz : w3.heap.size = w5.heap.size + 2 := by rw [hw3]; simp
      have bN : w3.heap[w5.heap.size]? = some (.cells #[.int .i64 (-1)] 3 (0, 0)) := by
        rw [hw3]
        have e1 := heap_alloc_new w5 (.cells #[.int .i64 (-1)] 3)
        exact (Below.heap_alloc _ _ _ (lt_of_block e1)).trans e1
      have bB : w3.heap[w5.heap.size + 1]? = some (.cells #[.slice va5 m vc5] 23 (0, 0)) := by
        rw [hw3]
        have e1 := heap_alloc_new (w5.alloc (.cells #[.int .i64 (-1)] 3)) (.cells #[.slice va5 m vc5] 23)
        rw [World.size_alloc] at e1
        exact e1
      have k3 : Kept (fun _ => False) w5 w3 := by rw [hw3]; exact ((Kept.refl _ _).alloc _).alloc _
      have hbx5 : bx < w5.heap.size := lt_of_block B5.out
      have bA : w3.heap[bx]? = some (.cells #[.pointer (some ⟨pa, 0, none⟩)] 29 (0, 0)) := (k3.block bx hbx5 (fun e => e)).trans B5.out
      have hA3 : IsA w3 F pa pm s' := A5.out.kept k3 fun _ _ e => e
      have hc3 : ∀ j, j < m → w3.cell? ⟨dg, j, none⟩ = some (.int .i64 ((nd1 (M.map rt))[j]?.getD 0)) := fun j hj => (k3.cell (p := ⟨dg, j, none⟩) hdg2 (fun e => e)).trans (hcs j hj)
      have hK3 : Kept F w w3 := K5.out.trans' (k3.any)
      rw [← hw3]
      have HF := hid HFL.out
      refine wpIn_rangeFunc_ownG rfl (by omega) (gf := 79) (lb := #[.pointer (some ⟨w5.heap.size + 1, 0, none⟩)]) rfl trivial (enters_of Try.func79 (by kernel_rfl) rfl)
        (backward_stops Fence.wide 5 trivial rfl (by omega) (w5.heap.size + 1) dg vc5 m va5 (nd1 (M.map rt)) (by omega) ha5 w3 (by omega) (by omega) (blk_cell bB rfl) hc3)
        (fun h1 h2 => ⟨h2.1.trans h1.1, h2.2.trans h1.2⟩) (fun W l o o' hl _ _ _ => ⟨World.putObj_heap_other (by omega), World.putObj_heap_other (by omega)⟩) (Below.refl _ _) (fun _ => rfl)
        (fun pre W => W.heap[bx]? = some (.cells #[.pointer (some ⟨pa, 0, none⟩)] 29 (0, 0)) ∧ W.heap[w5.heap.size]? = some (.cells #[.int .i64 (pre.foldl mstep (s', -1)).2] 3 (0, 0)) ∧ IsA W F pa pm (pre.foldl mstep (s', -1)).1 ∧ Kept F w W ∧ w5.heap.size + 2 ≤ W.heap.size)
        (fun _ _ _ => False) ?own (fun _ _ _ _ _ hs _ _ => hs) ⟨bA, bN, hA3, hK3, by omega⟩
        (fun x => { tmps := #[.pointer (some ⟨pa, 0, none⟩), rv, .pointer (some ⟨bx, 0, none⟩), undef, .int .i64 0, .slice va5 m vc5, .pointer (some ⟨w5.heap.size, 0, none⟩), undef, .int .i64 x.2, rv, rl, .bool false, u12, u13, u14, u15, u16, u17, u18, u19, u20, u21, u22, u23, u24, pv, rv, .slice va5 m vc5, .slice va5 m vc5, .func (.func 79) #[] #[.pointer (some ⟨w5.heap.size + 1, 0, none⟩)], .int .i64 (x.1 : Int), .int .i64 x.2, undef, undef, undef, undef, undef], defers := [] }) ?assign ?body ?done ?stop
      case own =>
        rintro pre W W' row ⟨h1, h2, h3, h4, h5⟩ hg hr
        have ne : ∀ k, k < w3.heap.size → some k ≠ row := fun k hk e => by have := (hr k e.symm).1; omega
        refine ⟨(hg.block _ (lt_of_block h1) (ne _ (by omega))).trans h1, (hg.block _ (lt_of_block h2) (ne _ (by omega))).trans h2, h3.kept (G := fun k => row = some k) ⟨hg.os, hg.tape, hg.output, hg.size, fun k hk hn => hg.block k hk fun e => hn e.symm⟩ (fun k hk e => by have := HF.out k hk; have := HBX.out; exact ne k (by omega) e.symm), h4.grown hg (fun k e => Or.inr (by have := (hr k e).1; have := HBX.out; omega)), Nat.le_trans h5 hg.size⟩
      case assign =>
        intro l x W K hK
        gi_wp2
        exact hK
      case body =>
        rintro l pre x W ⟨h1, h2, h3, h4, h5⟩ hlen
        have ca := blk_cell (j := 0) h1 rfl
        have cn := blk_cell (j := 0) h2 rfl
        have hst := mfold_steps pre (s', -1)
        have FO : Hid ((pre ++ [x]).foldl mstep (s', -1) = mstep (pre.foldl mstep (s', -1)) x) := hid (by rw [List.foldl_append]; rfl)
        obtain ⟨r, hr⟩ : ∃ r, r = pre.foldl mstep (s', -1) := ⟨_, rfl⟩
        rw [← hr] at cn h2 h3 hst FO
        clear hr
        obtain ⟨r1, r2⟩ := r
        simp only at cn h2 h3 hst FO
        obtain ⟨x1, x2⟩ := x
        have hr1 : r1.steps ≤ 99990000 := by have := ST5.out; omega
        have ST := hid (meldT x1 r2 x2 (Ex.start h3) (by omega))
        obtain ⟨q, hq⟩ : ∃ q, q = mstep (r1, r2) (x1, x2) := ⟨_, rfl⟩
        rw [← hq] at ST FO
        obtain ⟨q1, q2⟩ := q
        simp only at ST FO
        have P1 := hid h1
        have P2 := hid h2
        have P4 := hid h4
        have nA : Hid (¬ F bx) := hid (fun e => by have := HF.out _ e; have := HBX.out; omega)
        have nN : Hid (¬ F w5.heap.size) := hid (fun e => by have := HF.out _ e; have := HBX.out; omega)
        have nB : Hid (¬ F (w5.heap.size + 1)) := hid (fun e => by have := HF.out _ e; have := HBX.out; omega)
        have nD : Hid (¬ F dg) := hid (fun e => by have := HF.out _ e; have := HBX.out; omega)
        have hsz := h4.size
        have ltA := lt_of_block h1
        have ltN := lt_of_block h2
        clear h1 h2 h3 h4 hq
        gi_wp2
        refine ⟨trivial, (CallsIn.inRound l (callsIn_wide.2 ST.out)).mono ?_⟩
        rintro e W2 ⟨rfl, e2⟩
        have t2 := (e2.kept.block _ ltN nN.out).trans P2.out
        have t1 := (e2.kept.block _ ltA nA.out).trans P1.out
        have cn2 := blk_cell (j := 0) t2 rfl
        have fn2 := blk_free (j := 0) t2
        have E2 := hid e2
        have Q1 := hid t1
        have Q2 := hid t2
        clear e2 t1 t2 ST
        gi_wp2
        refine ⟨⟨by simpa using E2.out.kept.size, fun k o hB hk _ => ?_⟩, ⟨?_, ?_⟩, ?_, ?_, ?_, ?_, ?_⟩
        · have hkW : k < W.heap.size := lt_of_block hk
          rw [Below.heap_setCell _ _ _ _ (by show k ≠ w5.heap.size; omega)]
          exact (E2.out.kept.block k hkW (fun e => by have := HF.out k e; have := HBX.out; omega)).trans hk
        · rw [Below.heap_setCell _ _ _ _ (by show w5.heap.size + 1 ≠ w5.heap.size; omega)]
          exact E2.out.kept.block _ (by omega) nB.out
        · rw [Below.heap_setCell _ _ _ _ (by show dg ≠ w5.heap.size; omega)]
          exact E2.out.kept.block _ (by omega) nD.out
        · rw [Below.heap_setCell _ _ _ _ (by show bx ≠ w5.heap.size; omega)]
          exact Q1.out
        · rw [FO.out]
          have := blk_set (j := 0) (u := .int .i64 q2) Q2.out
          simpa using this
        · rw [FO.out]
          exact E2.out.is.kept ((Kept.refl (fun k => k = w5.heap.size) _).setCell (Or.inl rfl) _) (fun k hk e => nN.out (e ▸ hk))
        · exact (P4.out.trans' E2.out.kept).setCell (Or.inr (by have := HBX.out; show w.heap.size ≤ w5.heap.size; omega)) _
        · have := E2.out.kept.size; simp; omega
      case done =>
        rintro D ys W hD rfl ⟨h1, h2, h3, h4, h5⟩ hK
        have cn := blk_cell (j := 0) h2 rfl
        have P3 := hid h3
        have P4 := hid h4
        have HK := hid hK
        have ltN := lt_of_block h2
        have hD' : w5.heap.size + 2 ≤ D := by omega
        clear h1 h2 h3 h4
        go_wp2
        refine ⟨by simp, .inl ⟨_, _, rfl, run_takeDeferred HK.out, ?_⟩⟩
        refine ⟨_, results_tmp rfl _ _ _, _, _, rfl, ?_, ?_, P5.out⟩
        · exact P3.out.kept (G := fun k => k = D) ⟨rfl, rfl, rfl, by simp, fun k _ hn => World.putObj_heap_other hn⟩ (fun k hk e => by have := HF.out k hk; have := HBX.out; omega)
        · exact ⟨P4.out.os, P4.out.tape, P4.out.output, by simpa using P4.out.size, fun k hk hn => (World.putObj_heap_other (by have := HBX.out; omega)).trans (P4.out.block k hk hn)⟩
      case stop =>
        rintro D c pre W _ _ h _
        exact h.elim
    · obtain ⟨x, y, R', rfl⟩ : ∃ x y R', R = x :: y :: R' := by
        cases R with
        | nil => simp at hlt
        | cons x R =>
          cases R with
          | nil => simp at hlt
          | cons y R' => exact ⟨x, y, R', rfl⟩
      obtain ⟨g, o, rfl, hg, hgF, hc0⟩ := hRD.out 0 x rfl
      obtain ⟨g', o', e, _, _, hc1⟩ := hRD.out 1 y rfl
      obtain ⟨rfl, rfl⟩ : g = g' ∧ o = o' := by injection e with e; injection e with e1 e2; exact ⟨e1, e2⟩
      have d0 : wr.cell? ⟨g, o, none⟩ = some (.int .i64 (rt x : Int)) := (hK.out.cell (p := ⟨g, o, none⟩) hg hgF).trans (by simpa using hc0)
      have d1 : wr.cell? ⟨g, o + 1, none⟩ = some (.int .i64 (rt y : Int)) := (hK.out.cell (p := ⟨g, o + 1, none⟩) hg hgF).trans hc1
      obtain ⟨m2, hm2⟩ : ∃ m2, m2 = R'.length + 2 := ⟨_, rfl⟩
      have hlen2 : (x :: y :: R').length = m2 := by rw [hm2]; simp
      rw [hlen2] at hRc hRK hlt hPl ⊢
      have RD' : Hid (∀ (a : Option Addr), (c ≠ 2 → a = some ⟨g, o + 2, none⟩) → ∀ (j : Nat) (z : Tr), R'[j]? = some z → ∃ g o, a = some ⟨g, o, none⟩ ∧ g < w.heap.size ∧ ¬ F g ∧ w.cell? ⟨g, o + j, none⟩ = some (.int .i64 (rt z : Int))) := hid fun a ha j z hz => by
        have hj := (List.getElem?_eq_some_iff.1 hz).1
        obtain ⟨g1, o1, e1, h1, h2, h3⟩ := hRD.out (j + 2) z (by simpa using hz)
        have e2 : g = g1 ∧ o = o1 := by injection e1 with e1; injection e1 with q1 q2; exact ⟨q1, q2⟩
        obtain ⟨rfl, rfl⟩ := e2
        exact ⟨g, o + 2, ha (by omega), h1, h2, by rw [show o + 2 + j = o + (j + 2) by omega]; exact h3⟩
      obtain ⟨er, NP⟩ := hP.out.step (hP.out.sub HTOP.out)
      have LK := hid (fun w1 (k1 : Kept (fun _ => False) wr w1) => linkT (rt x : Int) (rt y : Int) ((Ex.start hA.out).plain k1) (by have := hP.out.hi; omega))
      rw [er] at LK
      have NPP := hid NP
      obtain ⟨pa5, pc5, rfl⟩ := own_form hO.out
      have hnp : (nd1 (P.map rt)).length = P.length := by simp [nd1]
      have OA := hid (show wr.ownsRow (bx + 1) 3 1 (.slice pa5 P.length pc5) P.length (row int1 (nd1 (P.map rt))) from by have := hO.out; unfold Own at this; rwa [hnp] at this)
      rw [hnp]
      have b0 : wr.cell? ⟨bx, 0, none⟩ = some (.pointer (some ⟨pa, 0, none⟩)) := blk_cell (j := 0) hB.out rfl
      have hgs : g < wr.heap.size := Nat.lt_of_lt_of_le hg hK.out.size
      have hbs : bx < wr.heap.size := lt_of_block hB.out
      have hbF : Hid (¬ F bx) := hid (fun e => by have := HFL.out bx e; have := HBX.out; omega)
      have HO2 := hid (fun i hi => World.ownsRow.lt OA.out i hi)
      obtain ⟨t, ht⟩ : ∃ t, t = rt (lnk (befF (hasS s)) x y) := ⟨_, rfl⟩
      have HT := hid ht
      rw [← ht] at LK
      have hgt : (1 : Int) < (m2 : Int) := by omega
      have hgt0 : (0 : Int) < (m2 : Int) := by omega
      have hgt2 : 1 < m2 := by omega
      have hgt3 : 0 < m2 := by omega
      have HM2 := hid hm2
      clear hc0 hc1 e er NP hRD hO hnp ht hlen2 hm2
      have hbl : bx + 1 ≤ wr.heap.size := hbs
      have hgb : g < bx := by have := HBX.out; omega
      go_wp2_with fail
      go_region_held3 (fun w' => w'.cell? ⟨bx, 0, none⟩ = some (.pointer (some ⟨pa, 0, none⟩)) ∧ w'.cell? ⟨g, o, none⟩ = some (.int .i64 (rt x : Int)) ∧ w'.cell? ⟨g, o + 1, none⟩ = some (.int .i64 (rt y : Int))) (first | exact ⟨b0, d0, d1⟩ | exact ⟨(World.cell?_of_block (Below.heap_alloc _ _ _ hbs3)).trans b0, (World.cell?_of_block (Below.heap_alloc _ _ _ hgs3)).trans d0, (World.cell?_of_block (Below.heap_alloc _ _ _ hgs3)).trans d1⟩)
        (first
          | (go_at_call 60; refine (LK.out _ (by first | exact Kept.refl _ _ | exact (Kept.refl _ _).drew | exact (Kept.refl _ _).drewN _)).mono ?_; rintro e w3 ⟨rfl, e3⟩; replace b0 := (e3.kept.cell (p := ⟨bx, 0, none⟩) hbs hbF.out).trans b0; replace d0 := (e3.kept.cell (p := ⟨g, o, none⟩) hgs hgF).trans d0; replace d1 := (e3.kept.cell (p := ⟨g, o + 1, none⟩) hgs hgF).trans d1; have E3 := hid e3; have O3 := hid (own_kept OA.out e3.kept (fun i hi hF => by have := (HO2.out i hi).1; have := HFL.out i hF; have := HBX.out; omega)); have hsz3 := e3.kept.size; have hbs3 := Nat.lt_of_lt_of_le hbs hsz3; have hgs3 := Nat.lt_of_lt_of_le hgs hsz3; clear e3)
          | (refine step_append_lst rfl (.tmp 14) (.tmp 23) rfl (bx + 1) _ _ P.length (row int1 (nd1 (P.map rt))) [(t : Int)] rfl rfl (by exact World.ownsRow.alloc O3.out _) (by exact Own.lst (own_lit0 _ _ (Nat.le_refl _) [(t : Int)] (by simp) #[.int .i64 (t : Int)] rfl)) (by simp; omega) (by simp; omega) ?_; intro v4 w4 o4 g4; have O4 := hid o4; have G4 := hid g4; have KQ := ((Kept.refl (fun i => bx + 1 ≤ i) _).alloc (.cells #[.int .i64 (t : Int)] 3)).grown g4 (fun i hi => Or.inl (World.ownsRow.lt O3.out i hi).1); replace b0 := (KQ.cell (p := ⟨bx, 0, none⟩) hbs3 (by show ¬ bx + 1 ≤ bx; omega)).trans b0; replace d0 := (KQ.cell (p := ⟨g, o, none⟩) hgs3 (by show ¬ bx + 1 ≤ g; omega)).trans d0; replace d1 := (KQ.cell (p := ⟨g, o + 1, none⟩) hgs3 (by show ¬ bx + 1 ≤ g; omega)).trans d1; have KK4 := hid KQ; clear o4 g4 KQ))
      have K4 := hid (((hK.out.trans' E3.out.kept).alloc (.cells #[.int .i64 (t : Int)] 3)).grown G4.out (fun i hi => Or.inr (by have := (World.ownsRow.lt O3.out i hi).1; have := HBX.out; omega)))
      have A4 := hid (E3.out.is.kept KK4.out (fun i hF hi => by have := HFL.out i hF; have := HBX.out; have : bx + 1 ≤ i := hi; omega))
      have B4 := hid ((KK4.out.block bx hbs3 (by show ¬ bx + 1 ≤ bx; omega)).trans ((E3.out.kept.block bx hbs hbF.out).trans hB.out))
      have L4 := hid (show Own w4 (bx + 1) v4 (nd1 ((P ++ [lnk (befF (hasS s)) x y]).map rt)) from by
        have := O4.out
        unfold Own
        rw [List.map_append, nd1_app, row_append, List.length_append]
        simp only [List.map_cons, List.map_nil]
        rw [← HT.out, nd1_len, List.length_map]
        exact this)
      clear O4 G4 KK4 E3 O3 b0 d0 d1 hA hK hB OA HO2 LK
      by_cases hc2 : c = 2
      · subst hc2
        go_wp2
        go_roundw
        case rel => exact ⟨_, R', some ⟨g, o, none⟩, 0, _, by rw [show R'.length = 0 by have := HM2.out; omega], by have := HM2.out; omega, by have := HM2.out; omega, hid ⟨Nat.zero_le _, fun e => (by cases e)⟩, RD'.out _ (fun e => absurd rfl e), NPP, L4, A4, K4, B4⟩
        case measure => simp [lenV]; omega
      · have hc3 : ¬ c - 2 = 0 := by omega
        go_wp2
        go_roundw
        case rel => exact ⟨_, R', some ⟨g, o + 2, none⟩, c - 2, _, by rw [show R'.length = m2 - 2 by have := HM2.out; omega], by have := HM2.out; omega, by have := HM2.out; omega, hid ⟨by have := hCL.out.1; omega, fun e => (by cases e)⟩, RD'.out _ (fun _ => rfl), NPP, L4, A4, K4, B4⟩
        case measure => simp [lenV]; omega
end
end Go.Proofs.Ythfdooigljkfiaa

/- A root is given back, its children are made one: remove. -/
namespace Go.Proofs.Ythfdooigljkfiaa
open Go.ChangeShapes Go.WideShapes Go.ChangeAt Go.RowKit
open Tr

/-- these are roots now -/
def aloF (f : Nat → Nat → Int) (l : List Nat) : Nat → Nat → Int := fun c j => if c ∈ l ∧ (j = 0 ∨ j = 2 ∨ j = 3) then -1 else f c j
def aloneL (s : St) (l : List Nat) : St := l.foldl (fun (s : St) (n : Nat) => aloneS s (n : Int)) s
theorem aloneL_snoc (s : St) (l : List Nat) (n : Nat) : aloneL s (l ++ [n]) = aloneS (aloneL s l) (n : Int) := by unfold aloneL; rw [List.foldl_append]; rfl
theorem aloneL_steps : ∀ (l : List Nat) (s : St), (aloneL s l).steps = s.steps + 3 * l.length
  | [], _ => rfl
  | n :: l, s => by
    show (aloneL (aloneS s (n : Int)) l).steps = _
    rw [aloneL_steps l, alone_steps, List.length_cons]; omega
theorem alone_view {s : St} {n : Nat} (ok : Ok s) (hn : LS s n = true) : hasS (aloneS s (n : Int)) = aloF (hasS s) [n] ∧ Sm s (aloneS s (n : Int)) := by
  unfold aloneS
  have m1 := Sm.set ok (n : Int) 0 (-1)
  have m2 := m1.trans (Sm.set m1.ok (n : Int) 2 (-1))
  have m3 := m2.trans (Sm.set m2.ok (n : Int) 3 (-1))
  refine ⟨?_, m3⟩
  have e1 := set_has (s := s) (c := n) (j := 0) (v := -1) hn (by decide)
  have e2 := set_has (s := setS s (n : Int) 0 (-1)) (c := n) (j := 2) (v := -1) (by rw [m1.ls]; exact hn) (by decide)
  have e3 := set_has (s := setS (setS s (n : Int) 0 (-1)) (n : Int) 2 (-1)) (c := n) (j := 3) (v := -1) (by rw [m2.ls]; exact hn) (by decide)
  funext c j
  unfold aloF
  refine (congrFun (congrFun e3 c) j).trans ?_
  by_cases q3 : c = n ∧ j = 3
  · rw [q3.1, q3.2, put_eq2, if_pos ⟨by simp, Or.inr (Or.inr rfl)⟩]
  · rw [put_ne2 q3]
    refine (congrFun (congrFun e2 c) j).trans ?_
    by_cases q2 : c = n ∧ j = 2
    · rw [q2.1, q2.2, put_eq2, if_pos ⟨by simp, Or.inr (Or.inl rfl)⟩]
    · rw [put_ne2 q2]
      refine (congrFun (congrFun e1 c) j).trans ?_
      by_cases q1 : c = n ∧ j = 0
      · rw [q1.1, q1.2, put_eq2, if_pos ⟨by simp, Or.inl rfl⟩]
      · rw [put_ne2 q1, if_neg]
        rintro ⟨z, y | y | y⟩
        · exact q1 ⟨by simpa using z, y⟩
        · exact q2 ⟨by simpa using z, y⟩
        · exact q3 ⟨by simpa using z, y⟩
theorem aloF_cons (f : Nat → Nat → Int) (n : Nat) (l : List Nat) : aloF (aloF f [n]) l = aloF f (n :: l) := by
  funext c j
  unfold aloF
  by_cases h : c ∈ l ∧ (j = 0 ∨ j = 2 ∨ j = 3)
  · rw [if_pos h, if_pos ⟨by simp [h.1], h.2⟩]
  · rw [if_neg h]
    by_cases h2 : c ∈ [n] ∧ (j = 0 ∨ j = 2 ∨ j = 3)
    · rw [if_pos h2, if_pos ⟨by have := h2.1; simp at this; simp [this], h2.2⟩]
    · rw [if_neg h2, if_neg]
      rintro ⟨z, y⟩
      rcases List.mem_cons.1 z with z | z
      · exact h2 ⟨by simp [z], y⟩
      · exact h ⟨z, y⟩
theorem aloneL_view : ∀ (l : List Nat) {s : St}, Ok s → (∀ c ∈ l, LS s c = true) → hasS (aloneL s l) = aloF (hasS s) l ∧ Sm s (aloneL s l)
  | [], s, ok, _ => ⟨by funext c j; unfold aloF; rw [if_neg (by simp)]; rfl, Sm.refl ok⟩
  | n :: l, s, ok, h => by
    obtain ⟨e1, m1⟩ := alone_view ok (h n (by simp))
    obtain ⟨e2, m2⟩ := aloneL_view l m1.ok (fun c hc => by rw [m1.ls]; exact h c (by simp [hc]))
    refine ⟨?_, m1.trans m2⟩
    show hasS (aloneL (aloneS s (n : Int)) l) = _
    rw [e2, e1, aloF_cons]
theorem alo_kids {L : Nat → Bool} {f : Nat → Nat → Int} {l : List Nat} : ∀ {k : Tr} {up q : Int}, Vp L f up q k → k.cells.Nodup → (∀ c ∈ rts k, c ∈ l) → (∀ c ∈ l, c ∈ k.cells → c ∈ rts k) → ∀ a ∈ kidsL k, Vp L (aloF f l) (-1) (-1) a
  | lf, _, _, _, _, _, _, a, ha => by cases ha
  | nd n i k r, up, q, hv, hn, h1, h2, a, ha => by
    have hd := hn
    simp only [cells, List.nodup_cons, List.mem_cons, List.mem_append, List.nodup_append, not_or] at hd
    obtain ⟨⟨n1, n2, n3⟩, ⟨n4, n5⟩, n6, n7, n8⟩ := hd
    have sub : ∀ c ∈ rts r, c ∈ r.cells := fun c hc => node_cell (rts_sub hc)
    rcases List.mem_cons.1 ha with rfl | ha
    · obtain ⟨⟨v1, v2, v3, v4, v5, v6, v7, v8⟩, hk, hr⟩ := hv
      have nl : n ∈ l := h1 n (by simp [rts])
      have key : ∀ c j, j ≠ 0 → j ≠ 2 → j ≠ 3 → aloF f l c j = f c j := fun c j a b d => by unfold aloF; rw [if_neg (fun z => z.2.elim a fun z => z.elim b d)]
      refine ⟨⟨v1, v2, ?_, by rw [key _ _ (by decide) (by decide) (by decide)]; exact v4, ?_, ?_, by rw [key _ _ (by decide) (by decide) (by decide)]; exact v7, by rw [key _ _ (by decide) (by decide) (by decide)]; exact v8⟩, ?_, trivial⟩
      · unfold aloF; rw [if_pos ⟨nl, Or.inl rfl⟩]
      · unfold aloF; rw [if_pos ⟨nl, Or.inr (Or.inl rfl)⟩]
      · unfold aloF; rw [if_pos ⟨nl, Or.inr (Or.inr rfl)⟩]; rfl
      · refine hk.like fun c hc => ⟨rfl, fun j => ?_⟩
        unfold aloF
        rw [if_neg]
        rintro ⟨z, _⟩
        have := h2 c z (by simp [cells, hc])
        simp only [rts, List.mem_cons] at this
        rcases this with e | e
        · exact n2 (e ▸ hc)
        · exact n8 c hc c (sub c e) rfl
    · refine alo_kids hv.2.2 n7 (fun c hc => h1 c (by simp [rts, hc])) (fun c hc hcr => ?_) a ha
      have := h2 c hc (by simp [cells, hcr])
      simp only [rts, List.mem_cons] at this
      rcases this with e | e
      · exact absurd hcr (e ▸ n3)
      · exact e
theorem kids_ho {lt : Nat → Nat → Bool} : ∀ {k : Tr} {u : Nat}, Hu lt u k → ∀ a ∈ kidsL k, Ho lt a
  | lf, _, _, a, ha => by cases ha
  | nd n i k r, u, h, a, ha => by
    rcases List.mem_cons.1 ha with rfl | ha
    · exact h.2.1
    · exact kids_ho h.2.2 a ha
theorem kids_cells : ∀ k : Tr, (kidsL k).flatMap cells = k.cells ∧ (kidsL k).flatMap items = k.items ∧ (kidsL k).flatMap nodes = k.nodes
  | lf => ⟨rfl, rfl, rfl⟩
  | nd n i k r => by
    obtain ⟨h1, h2, h3⟩ := kids_cells r
    simp only [kidsL, List.flatMap_cons, h1, h2, h3]
    simp [cells, items, nodes]
theorem give_ls {s : St} {c : Nat} (h : LS s c = true) : LS (giveS s (c : Int)) = fun a => if a = c then false else LS s a := by
  obtain ⟨x, hx⟩ := ls_pl h
  funext a
  unfold LS
  rw [give_yes (x := (x, true)) h (by simpa using hx)]
  unfold liveS
  simp only [Int.toNat_natCast]
  by_cases e : a = c
  · subst e
    rw [List.getElem?_set_self (ls_lt h)]
    simp
  · rw [List.getElem?_set_ne (fun q => e q.symm), if_neg e]
theorem give_has {s : St} {c : Nat} (h : LS s c = true) : hasS (giveS s (c : Int)) = hasS s := by
  obtain ⟨x, hx⟩ := ls_pl h
  funext a
  rw [give_yes (x := (x, true)) h (by simpa using hx)]
  unfold hasS
  simp only [Int.toNat_natCast]
  by_cases e : a = c
  · subst e
    rw [List.getElem?_set_self (ls_lt h), hx]
  · rw [List.getElem?_set_ne (fun q => e q.symm)]
theorem give_back {s : St} {c : Nat} (h : LS s c = true) : (giveS s (c : Int)).back = s.back ++ [c] ∧ (giveS s (c : Int)).pl.length = s.pl.length := by
  obtain ⟨x, hx⟩ := ls_pl h
  rw [give_yes (x := (x, true)) h (by simpa using hx)]
  simp
theorem gb_view {s : St} {n i : Nat} (ok : Ok s) (hn : LS s n = true) (hi : LS s i = true) (h6 : hasS s n 6 = (i : Int)) :
    Ok (gbS s (n : Int)) ∧ cnt (gbS s (n : Int)).pl + 1 = cnt s.pl ∧ (∀ c, LS (gbS s (n : Int)) c = if c = n then false else LS s c) ∧ ∀ c j, hasS (gbS s (n : Int)) c j = if c = i ∧ j = 9 then -1 else hasS s c j := by
  unfold gbS
  have c6 : cellS s (n : Int) 6 = (i : Int) := cell_nat (j := 6) ok hn (by decide) h6 hi
  rw [c6]
  have s4 := (Sm.tk ok 1).trans (Sm.set (Sm.tk ok 1).ok (i : Int) 9 (-1))
  have v4 : hasS (setS (tk s 1) (i : Int) 9 (-1)) = put (hasS s) i 9 (-1) := set_has (s := tk s 1) (j := 9) hi (by decide)
  have e4 := cnt_sm ok s4
  generalize setS (tk s 1) (i : Int) 9 (-1) = s5 at *
  have ln : LS s5 n = true := by rw [s4.ls]; exact hn
  obtain ⟨g1, g2⟩ := give_back ln
  have okg := s4.ok.give (c := (n : Int))
  refine ⟨okg, ?_, fun c => by rw [give_ls ln, s4.ls], fun c j => ?_⟩
  · have c1 := okg.count
    have c2 := s4.ok.count
    rw [g1, g2] at c1
    simp at c1
    omega
  · rw [give_has ln, v4]
    by_cases e : c = i ∧ j = 9
    · rw [if_pos e, e.1, e.2, put_at]
    · rw [if_neg e, put_or (by by_cases z : c = i; · right; exact fun y => e ⟨z, y⟩
                               · left; exact z)]
/-- a heap -/
structure Hpp (s : St) (t : Tr) : Prop where
  vp : Vp (LS s) (hasS s) (-1) (-1) t
  top : t = lf ∨ Top t
  ho : Ho (befF (hasS s)) t
  nod : t.cells.Nodup
theorem Row.hpp {s : St} {lt : Nat → Nat → Bool} {D : List Tr} (h : Row s (mgl lt D)) : Hpp s (mg lt D) := by
  by_cases e : D = []
  · subst e; exact ⟨trivial, Or.inl rfl, trivial, List.nodup_nil⟩
  · have : mgl lt D = [mg lt D] := by unfold mgl; rw [if_neg e]
    rw [this] at h
    refine ⟨h.vp _ (by simp), Or.inr (h.top _ (by simp)), h.ho _ (by simp), ?_⟩
    have := h.nod
    rwa [List.flatMap_cons, List.flatMap_nil, List.append_nil] at this
/-- what remove does -/
structure Rmv (s s' : St) (n i : Nat) (k : Tr) (r : Int) : Prop where
  root : r = (rmv (befF (hasS s)) k).root
  hp : Hpp s' (rmv (befF (hasS s)) k)
  ok : Ok s'
  num : cnt s'.pl + 1 = cnt s.pl
  most : s'.most = s.most
  ls : ∀ c, LS s' c = if c = n then false else LS s c
  key : ∀ c j, 4 ≤ j → hasS s' c j = if c = i ∧ j = 9 then -1 else hasS s c j
  out : ∀ c, c ∉ (nd n i k lf).cells → ∀ j, hasS s' c j = hasS s c j
  lo : s.steps ≤ s'.steps
  hi : s'.steps ≤ s.steps + 4 + 17 * (kidsL k).length
/-- ahead of merge -/
theorem rm_row {s : St} {n i : Nat} {k : Tr} {q : Nat} (h : Hpp s (nd n i k lf)) (ok : Ok s) :
    Row (gbS (aloneL (tk s q) (rts k)) (n : Int)) (kidsL k) ∧ Ok (gbS (aloneL (tk s q) (rts k)) (n : Int)) ∧ ∀ (s' : St) (r : Int), Mgd (gbS (aloneL (tk s q) (rts k)) (n : Int)) s' (kidsL k) r → q = 1 + 3 * (rts k).length → Rmv s s' n i k r := by
  obtain ⟨⟨v1, v2, v3, v4, v5, v6, v7, v8⟩, hk, _⟩ := h.vp
  have hd := h.nod
  simp only [cells, List.append_nil, List.nodup_cons, List.mem_cons, not_or] at hd
  obtain ⟨⟨n1, n2⟩, n3, n4⟩ := hd
  have hlv : ∀ c ∈ rts k, LS (tk s q) c = true := fun c hc => hk.live c (node_cell (rts_sub hc))
  obtain ⟨e1, m1⟩ := aloneL_view (rts k) (s := tk s q) (Sm.tk ok q).ok hlv
  have m0 := (Sm.tk ok q).trans m1
  have hst := aloneL_steps (rts k) (tk s q)
  generalize aloneL (tk s q) (rts k) = s2 at *
  have e1' : hasS s2 = aloF (hasS s) (rts k) := e1
  have ln : LS s2 n = true := by rw [m0.ls]; exact v1
  have li : LS s2 i = true := by rw [m0.ls]; exact v2
  have f6 : ∀ c j, 4 ≤ j → hasS s2 c j = hasS s c j := fun c j hj => by rw [e1']; unfold aloF; rw [if_neg (by omega)]
  obtain ⟨g1, g2, g3, g4⟩ := gb_view m0.ok ln li ((f6 n 6 (by decide)).trans v7)
  have gs := gb_steps s2 (n : Int)
  have gm := gb_most s2 (n : Int)
  generalize gbS s2 (n : Int) = s3 at *
  have kc : ∀ a ∈ kidsL k, ∀ c ∈ a.cells, c ∈ k.cells := fun a ha c hc => by rw [← (kids_cells k).1]; exact List.mem_flatMap.2 ⟨a, ha, hc⟩
  have hb : befF (hasS s3) = befF (hasS s) := by
    have e2 : ∀ c, hasS s3 c 7 = hasS s c 7 ∧ hasS s3 c 8 = hasS s c 8 := fun c => by rw [g4, g4, if_neg (by omega), if_neg (by omega), f6 _ _ (by decide), f6 _ _ (by decide)]; exact ⟨rfl, rfl⟩
    funext c d
    unfold befF
    rw [(e2 c).1, (e2 c).2, (e2 d).1, (e2 d).2]
  have row : Row s3 (kidsL k) := by
    refine ⟨fun a ha => ?_, fun a ha => kids_top a ha, fun a ha => by rw [hb]; exact kids_ho h.ho a ha, by rw [(kids_cells k).1]; exact n4⟩
    have va := alo_kids hk n4 (l := rts k) (fun c hc => hc) (fun c hc _ => hc) a ha
    refine va.like fun c hc => ?_
    have ck := kc a ha c hc
    refine ⟨by rw [g3, if_neg (show ¬ c = n from fun z => n2 (z ▸ ck)), m0.ls], fun j => ?_⟩
    rw [g4, if_neg (show ¬ (c = i ∧ j = 9) from fun z => n3 (z.1 ▸ ck)), e1']
  refine ⟨row, g1, fun s' r md hq => ?_⟩
  have lt3 := md.row
  rw [hb] at lt3
  have hr := md.root
  rw [hb] at hr
  have out : ∀ c, c ∉ (nd n i k lf).cells → ∀ j, hasS s' c j = hasS s c j := fun c hc j => by
    simp only [cells, List.append_nil, List.mem_cons, not_or] at hc
    rw [md.tch.out c (by rw [(kids_cells k).1]; exact hc.2.2), g4, if_neg (show ¬ (c = i ∧ j = 9) from fun z => hc.2.1 z.1), e1']
    unfold aloF
    rw [if_neg (show ¬ (c ∈ rts k ∧ (j = 0 ∨ j = 2 ∨ j = 3)) from fun z => hc.2.2 (node_cell (rts_sub z.1)))]
  refine ⟨hr, lt3.hpp, md.tch.sm.ok, ?_, ?_, fun c => ?_, fun c j hj => ?_, out, ?_, ?_⟩
  · rw [cnt_sm g1 md.tch.sm, g2]
    exact cnt_sm ok m0
  · rw [md.tch.sm.most, gm, m0.most]
  · rw [md.tch.sm.ls, g3, m0.ls]
  · rw [md.tch.key c j hj, g4, f6 c j hj]
  · have := md.lo
    have e : (tk s q).steps = s.steps + q := rfl
    omega
  · have := md.hi
    have e : (tk s q).steps = s.steps + q := rfl
    have e2 := rts_len k
    omega

section
variable {F : Nat → Prop} {w w' : World} {pa pm : Nat} {s : St}
set_option maxHeartbeats 2000000 in
theorem removeT {n i : Nat} {k : Tr} (h : Hpp s (nd n i k lf)) (ok : Ok s) (hlen : (rts k).length ≤ 40000) (hA : IsA w F pa pm s) (hs : s.steps ≤ 97000000) :
    Calls Try.prog 50 #[.pointer (some ⟨pa, 0, none⟩), .int .i64 (n : Int)] w fun e w' =>
      ∃ (s' : St) (r : Int), e = .returned (.int .i64 r) ∧ Rmv s s' n i k r ∧ Aft F w w' pa pm s' := by
  have vp := h.vp
  have CH := hid (pchildT n k vp.2.1 (cell_root (j := 1) ok vp.1.1 (by decide) vp.1.2.2.2.1 vp.2.1) vp.1.1 ok hlen hA (by omega))
  obtain ⟨q, hq⟩ : ∃ q, q = 1 + 3 * (rts k).length := ⟨_, rfl⟩
  rw [← hq] at CH
  obtain ⟨RW, ok3, FIN⟩ := rm_row (q := q) h ok
  have RW0 := hid RW
  have OK3 := hid ok3
  have FIN0 := hid FIN
  have HFL := hid hA.lt
  obtain ⟨N, hN⟩ : ∃ N, N = rts k := ⟨_, rfl⟩
  have HN := hid hN
  have HQ := hid hq
  have hNl : N.length ≤ 40000 := by rw [hN]; exact hlen
  have hrk := rts_kids k
  have HRK := hid (show N = (kidsL k).map rt by rw [hN]; exact hrk)
  rw [← hN] at CH
  have KL := hid (show (kidsL k).length = N.length by rw [hN]; exact (rts_len k).symm)
  rw [← hN] at RW0 OK3 FIN0
  have hq1 : q ≤ 120001 := by rw [hq, ← hN]; omega
  clear h ok hA vp RW ok3 FIN hN hq hrk hlen
  have hnl : (nd1 N).length = N.length := nd1_len N
  have HNL := hid hnl
  clear hnl
  go_enter Try.func50, Try.ntmps50
  go_wp2_with fail
  refine CH.out.mono ?_
  rintro e w1 ⟨v, rfl, o1, a1, k1⟩
  obtain ⟨va, vc, rfl⟩ := own_form o1
  have O1 := hid o1
  have A1 := hid a1
  have K1 := hid k1
  rw [HNL.out] at O1 ⊢
  clear o1 a1 k1 CH
  go_wp2_with fail
  go_loopw [7, 13] (fun _ iv wr => ∃ j : Nat, iv = .int .i64 (j : Int) ∧ j ≤ N.length ∧ Hid (IsA wr F pa pm (aloneL (tk s q) (N.take j))) ∧ Hid (Kept F w1 wr)) (fun _ iv _ => N.length - (intOf iv).toNat)
  case atStart => exact ⟨0, rfl, Nat.zero_le _, A1, hid (Kept.refl _ _)⟩
  case round =>
    clear A1
    obtain ⟨j, rfl, hj, hA, hK⟩ := hrel
    have OR := hid (own_kept O1.out hK.out (fun i hi hF => by have := (World.ownsRow.lt O1.out i hi).1; have := HFL.out i hF; omega))
    by_cases hlt : j < N.length
    · have hx : N[j]? = some N[j] := List.getElem?_eq_getElem hlt
      generalize N[j] = y at hx
      obtain ⟨g, cap, e, hg, _, hcell⟩ := own1_at OR.out int1_len (nd1_at hx)
      rw [HNL.out] at e
      have e1 : va = some ⟨g, 0, none⟩ := by injection e
      subst e1
      replace hcell : wr.cell? ⟨g, j, none⟩ = some (.int .i64 (y : Int)) := hcell
      have hlt' : (j : Int) < (N.length : Int) := by omega
      have hln : (N.take j).length ≤ 40000 := by rw [List.length_take]; omega
      have AL := hid (aloneT (y : Int) (Ex.start hA.out) (by rw [aloneL_steps]; show s.steps + q + _ ≤ _; omega))
      have TK := hid (show aloneL (tk s q) (N.take (j + 1)) = aloneS (aloneL (tk s q) (N.take j)) (y : Int) by rw [List.take_add_one, hx, ← aloneL_snoc]; rfl)
      clear hx e hA hln
      go_wp2_with fail
      refine AL.out.mono ?_
      rintro e w2 ⟨rfl, e2⟩
      have A2 := hid (show IsA w2 F pa pm (aloneL (tk s q) (N.take (j + 1))) by rw [TK.out]; exact e2.is)
      have K2 := hid (hK.out.trans' e2.kept)
      clear e2 AL hK
      go_wp2
      go_roundw
      case rel => exact ⟨j + 1, by go_num, by omega, A2, K2⟩
      case measure => simp [intOf]; omega
    · obtain rfl : j = N.length := by omega
      have hA' := hA.out
      rw [List.take_of_length_le (Nat.le_refl _)] at hA'
      have st2 : (aloneL (tk s q) N).steps = s.steps + q + 3 * N.length := aloneL_steps N (tk s q)
      have GB := hid (giveBackT (n : Int) (Aft.start hA') (by rw [st2]; omega))
      have HA := hid hA'
      have K2 := hid (K1.out.trans' hK.out)
      have hge : decide ((N.length : Int) < (N.length : Int)) = false := by simp
      clear hA hA' hK
      obtain ⟨w2, rfl⟩ : ∃ w2, w2 = wr := ⟨_, rfl⟩
      go_wp2_with fail
      refine GB.out.mono ?_
      rintro e w3 ⟨rfl, a3⟩
      have A3 := hid a3
      have hgs := gb_steps (aloneL (tk s q) N) (n : Int)
      have O3 := hid (own_kept OR.out a3.kept (fun i hi hF => by have := (World.ownsRow.lt OR.out i hi).1; have := HFL.out i hF; omega))
      have MG := hid (mergeT (w := w3) (F := Grow F w2 w3) (pa := pa) (pm := pm) (kidsL k) (.slice va N.length vc) RW0.out OK3.out (by
        rw [← HRK.out]
        have := Own.base (B' := 0) (show Own w3 w.heap.size (.slice va N.length vc) (nd1 N) from by have := O3.out; unfold Own; rw [HNL.out]; rw [HNL.out] at this; exact this) (Nat.zero_le _)
        exact this) (fun b hb hF => by
          have h1 := World.ownsRow.lt OR.out b hb
          rcases hF with hF | hF
          · have := HFL.out b hF; omega
          · omega) (by rw [KL.out]; exact hNl) a3.is (by rw [hgs, st2]; omega))
      clear a3 GB st2 hgs
      go_wp2_with fail
      refine MG.out.mono ?_
      rintro e w4 ⟨s', r, rfl, a4, k4, md⟩
      have RM := hid (FIN0.out s' r md (by rw [HN.out]; exact HQ.out))
      have A4 := hid (show Aft F w w4 pa pm s' from by
        have a5 := A3.out.stay a4 k4
        have hz : w2.heap.size ≤ w4.heap.size := a5.kept.size
        have hz2 : w.heap.size ≤ w2.heap.size := K2.out.size
        refine ⟨a5.is.widen (fun i hi => hi.imp id fun q => ⟨by omega, by omega⟩) (Grow.lt HFL.out (by omega)), ?_, HFL.out⟩
        exact K2.out.trans (a5.kept.mono fun i hi => Or.inl hi))
      clear MG a4 k4 md
      go_wp2
      go_ret
      exact ⟨s', r, rfl, RM.out, A4.out⟩
end
end Go.Proofs.Ythfdooigljkfiaa

/- Two heaps and what they hold: how New, Push, Pop, Cut, Meld, Give turn them. -/
namespace Go.Proofs.Ythfdooigljkfiaa
open Go.ChangeShapes Go.WideShapes Go.ChangeAt Go.RowKit
open Tr

def headr (t : Tr) : Int := t.root
/-- a heap, and the list of what it holds -/
structure Hh (s : St) (t : Tr) (L : List (Nat × Int × Int)) : Prop where
  hp : Hpp s t
  pm : (L.map (fun x => x.1)).Perm t.items
  en : ∀ x ∈ L, hasS s x.1 7 = x.2.1 ∧ hasS s x.1 8 = x.2.2
/-- two heaps; no cell is lost -/
structure Inv (s : St) (t u : Tr) (L M : List (Nat × Int × Int)) : Prop where
  ok : Ok s
  a : Hh s t L
  b : Hh s u M
  dj : ∀ c ∈ t.cells, c ∉ u.cells
  num : cnt s.pl = 2 * (L.length + M.length)
/-- two heaps, and an item that is in none -/
structure Inv1 (s : St) (t u : Tr) (L M : List (Nat × Int × Int)) (i : Nat) : Prop where
  ok : Ok s
  a : Hh s t L
  b : Hh s u M
  dj : ∀ c ∈ t.cells, c ∉ u.cells
  num : cnt s.pl = 2 * (L.length + M.length) + 1
  live : LS s i = true
  out : i ∉ t.cells ∧ i ∉ u.cells
  free : hasS s i 9 = -1
/-- no heap -/
def nilQ : Tr := lf
def its (_ : St) (t : Tr) : List Nat := t.items
def cel (_ : St) (t : Tr) : List Nat := t.cells
/-- what calls that are to come may lean on -/
def pot (_ : St) (t u : Tr) : Nat := 34 * (ph t + ph u)

theorem item_cell : ∀ {t : Tr} {c : Nat}, c ∈ t.items → c ∈ t.cells
  | lf, c, h => by simp [items] at h
  | nd n i k r, c, h => by
    simp only [items, List.mem_cons, List.mem_append] at h
    simp only [cells, List.mem_cons, List.mem_append]
    rcases h with h | h | h
    · exact Or.inr (Or.inl h)
    · exact Or.inr (Or.inr (Or.inl (item_cell h)))
    · exact Or.inr (Or.inr (Or.inr (item_cell h)))
/-- orders that tell the same of a forest's items -/
theorem Hu.congr {lt lt' : Nat → Nat → Bool} : ∀ {t : Tr} {u : Nat}, Hu lt u t → (∀ a b, (a = u ∨ a ∈ t.items) → (b = u ∨ b ∈ t.items) → lt' a b = lt a b) → Hu lt' u t
  | lf, _, _, _ => trivial
  | nd n i k r, u, ⟨h1, h2, h3⟩, h => by
    refine ⟨(h i u (Or.inr (by simp [items])) (Or.inl rfl)).trans h1, h2.congr fun a b ha hb => h a b (Or.inr ?_) (Or.inr ?_), h3.congr fun a b ha hb => h a b (ha.imp id fun z => by simp [items, z]) (hb.imp id fun z => by simp [items, z])⟩
    · rcases ha with rfl | ha <;> simp [items, *]
    · rcases hb with rfl | hb <;> simp [items, *]
theorem Ho.congr {lt lt' : Nat → Nat → Bool} {t : Tr} (h : Ho lt t) (he : ∀ a b, a ∈ t.items → b ∈ t.items → lt' a b = lt a b) : Ho lt' t := by
  cases t with
  | lf => trivial
  | nd n i k r =>
    refine Hu.congr (t := k) (u := i) h fun a b ha hb => he a b ?_ ?_
    · rcases ha with rfl | ha <;> simp [items, *]
    · rcases hb with rfl | hb <;> simp [items, *]
theorem bef_same {f f' : Nat → Nat → Int} {a b : Nat} (ha : f' a 7 = f a 7 ∧ f' a 8 = f a 8) (hb : f' b 7 = f b 7 ∧ f' b 8 = f b 8) : befF f' a b = befF f a b := by
  unfold befF
  rw [ha.1, ha.2, hb.1, hb.2]

section
variable {s s' : St} {t t' u : Tr} {L M : List (Nat × Int × Int)} {i n : Nat}
theorem Hpp.nil (s : St) : Hpp s lf := ⟨trivial, Or.inl rfl, trivial, List.nodup_nil⟩
theorem Hh.nil (s : St) : Hh s nilQ [] := ⟨Hpp.nil s, .nil, fun x h => (by cases h)⟩
theorem Hh.len (h : Hh s t L) : t.size = L.length := by
  have := h.pm.length_eq
  rw [List.length_map, size_items] at this; exact this.symm
theorem Hh.mem (h : Hh s t L) {x : Nat × Int × Int} (hx : x ∈ L) : x.1 ∈ t.items := h.pm.mem_iff.1 (List.mem_map.2 ⟨x, hx, rfl⟩)
theorem Hh.none (h : Hh s t L) : t = nilQ ↔ L = [] := by
  have := h.len
  constructor
  · intro e; rw [e] at this; exact List.eq_nil_of_length_eq_zero this.symm
  · intro e
    rw [e] at this
    cases t with
    | lf => rfl
    | nd n i k r => simp [size] at this
theorem Hpp.keep (h : Hpp s t) (hf : ∀ c ∈ t.cells, LS s' c = LS s c ∧ ∀ j, hasS s' c j = hasS s c j) : Hpp s' t :=
  ⟨h.vp.like hf, h.top, h.ho.congr fun a b ha hb => bef_same ⟨(hf a (item_cell ha)).2 7, (hf a (item_cell ha)).2 8⟩ ⟨(hf b (item_cell hb)).2 7, (hf b (item_cell hb)).2 8⟩, h.nod⟩
theorem Hh.keep (h : Hh s t L) (hf : ∀ c ∈ t.cells, LS s' c = LS s c ∧ ∀ j, hasS s' c j = hasS s c j) : Hh s' t L :=
  ⟨h.hp.keep hf, h.pm, fun x hx => by
    have c := item_cell (h.mem hx)
    rw [(hf _ c).2, (hf _ c).2]; exact h.en x hx⟩
theorem Hh.live (h : Hh s t L) : ∀ c ∈ t.cells, LS s c = true := h.hp.vp.live
theorem Inv.swap (h : Inv s t u L M) : Inv s u t M L := ⟨h.ok, h.b, h.a, fun c hc q => h.dj c q hc, by have := h.num; omega⟩
theorem Inv1.swap (h : Inv1 s t u L M i) : Inv1 s u t M L i := ⟨h.ok, h.b, h.a, fun c hc q => h.dj c q hc, by have := h.num; omega, h.live, h.out.symm, h.free⟩
theorem pot_swap (s : St) (t u : Tr) : pot s t u = pot s u t := by unfold pot; omega
theorem Inv.tk (h : Inv s t u L M) (k : Nat) : Inv (tk s k) t u L M := ⟨(Sm.tk h.ok k).ok, h.a.keep (s' := Go.Proofs.Ythfdooigljkfiaa.tk s k) fun _ _ => ⟨rfl, fun _ => rfl⟩, h.b.keep (s' := Go.Proofs.Ythfdooigljkfiaa.tk s k) fun _ _ => ⟨rfl, fun _ => rfl⟩, h.dj, h.num⟩
theorem Inv1.tk (h : Inv1 s t u L M i) (k : Nat) : Inv1 (tk s k) t u L M i := ⟨(Sm.tk h.ok k).ok, h.a.keep (s' := Go.Proofs.Ythfdooigljkfiaa.tk s k) fun _ _ => ⟨rfl, fun _ => rfl⟩, h.b.keep (s' := Go.Proofs.Ythfdooigljkfiaa.tk s k) fun _ _ => ⟨rfl, fun _ => rfl⟩, h.dj, h.num, h.live, h.out, h.free⟩
theorem Inv.start (n : Int) : Inv (st0 n) nilQ nilQ [] [] := ⟨Ok.start n, Hh.nil _, Hh.nil _, fun c hc => by simp [cells, nilQ] at hc, rfl⟩
/-- a call that leaves both heaps alone -/
theorem Inv.both (h : Inv s t u L M) (hk : ∀ c, c ∈ t.cells ∨ c ∈ u.cells → LS s' c = LS s c ∧ ∀ j, hasS s' c j = hasS s c j) : Hh s' t L ∧ Hh s' u M :=
  ⟨h.a.keep fun c hc => hk c (Or.inl hc), h.b.keep fun c hc => hk c (Or.inr hc)⟩
/-- item.New, where there is room -/
theorem new_inv (h : Inv s t u L M) (key serial : Int) (hx : 0 ≤ nextS s) : ∃ i : Nat, nextS s = (i : Int) ∧ Inv1 (newS s key serial) t u L M i ∧ hasS (newS s key serial) i 7 = key ∧ hasS (newS s key serial) i 8 = serial ∧ pot (newS s key serial) t u = pot s t u := by
  obtain ⟨n, e, h1, h2, h3, h4⟩ := take_view h.ok hx
  refine ⟨n, e, ?_⟩
  unfold newS
  rw [if_pos hx, e]
  have ok1 := h.ok.take
  have l1 : LS (takeS s) n = true := by rw [h2, if_pos rfl]
  have m1 := Sm.set ok1 (n : Int) 7 key
  have v1 : hasS (setS (takeS s) (n : Int) 7 key) = put (hasS (takeS s)) n 7 key := set_has (j := 7) l1 (by decide)
  have l2 : LS (setS (takeS s) (n : Int) 7 key) n = true := by rw [m1.ls]; exact l1
  have m2 := m1.trans (Sm.set m1.ok (n : Int) 8 serial)
  have v2 : hasS (setS (setS (takeS s) (n : Int) 7 key) (n : Int) 8 serial) = put (put (hasS (takeS s)) n 7 key) n 8 serial := by rw [← v1]; exact set_has (j := 8) l2 (by decide)
  generalize setS (setS (takeS s) (n : Int) 7 key) (n : Int) 8 serial = s3 at *
  have hne : ∀ c, c ∈ t.cells ∨ c ∈ u.cells → c ≠ n := fun c hc q => by
    have := hc.elim (h.a.live c) (h.b.live c)
    rw [q, h1] at this; cases this
  have hk : ∀ c, c ≠ n → LS s3 c = LS s c ∧ ∀ j, hasS s3 c j = hasS s c j := fun c hc => ⟨by rw [m2.ls, h2, if_neg hc], fun j => by rw [v2, put_ne hc, put_ne hc, h3, if_neg hc]⟩
  obtain ⟨a, b⟩ := h.both (s' := s3) fun c hc => hk c (hne c hc)
  refine ⟨⟨m2.ok, a, b, h.dj, ?_, ?_, ⟨fun q => hne n (Or.inl q) rfl, fun q => hne n (Or.inr q) rfl⟩, ?_⟩, ?_, ?_⟩
  · rw [cnt_sm ok1 m2, h4, h.num]
  · rw [m2.ls]; exact l1
  · rw [v2, put_nj (by decide), put_nj (by decide), h3, if_pos rfl]; rfl
  · rw [v2, put_nj (by decide), put_at]
  · exact ⟨by rw [v2, put_at], rfl⟩
/-- the item is given back -/
theorem give_inv (h : Inv1 s t u L M i) : Inv (giveS s (i : Int)) t u L M ∧ pot (giveS s (i : Int)) t u = pot s t u := by
  have e1 := give_ls h.live
  have e2 := give_has h.live
  obtain ⟨e3, e4⟩ := give_back h.live
  have hk : ∀ c, c ≠ i → LS (giveS s (i : Int)) c = LS s c ∧ ∀ j, hasS (giveS s (i : Int)) c j = hasS s c j := fun c hc => ⟨by rw [e1]; simp only; rw [if_neg hc], fun j => by rw [e2]⟩
  have a := h.a.keep (s' := giveS s (i : Int)) fun c hc => hk c fun q => h.out.1 (q ▸ hc)
  have b := h.b.keep (s' := giveS s (i : Int)) fun c hc => hk c fun q => h.out.2 (q ▸ hc)
  refine ⟨⟨h.ok.give, a, b, h.dj, ?_⟩, rfl⟩
  have := h.ok.count
  have q := h.ok.give (c := (i : Int)) |>.count
  rw [e3, e4] at q
  simp at q
  have := h.num
  omega
/-- Take at no room: nothing but a step -/
theorem Inv1.full (h : Inv1 s t u L M i) (hx : ¬ 0 ≤ nextS s) : Inv1 (takeS s) t u L M i := by
  rw [take_full hx]
  exact h.tk 1
/-- a node is taken out of a heap -/
structure Rmx (s s' : St) (t t' : Tr) (n i : Nat) : Prop where
  hp : Hpp s' t'
  pc : t.cells.Perm (n :: i :: t'.cells)
  pi : t.items.Perm (i :: t'.items)
  ok : Ok s'
  num : cnt s'.pl + 1 = cnt s.pl
  most : s'.most = s.most
  ls : ∀ c, LS s' c = if c = n then false else LS s c
  key : ∀ c j, 4 ≤ j → hasS s' c j = if c = i ∧ j = 9 then -1 else hasS s c j
  out : ∀ c, c ∉ t.cells → ∀ j, hasS s' c j = hasS s c j
theorem rmx_inv {l1 l2 : List (Nat × Int × Int)} {x : Nat × Int × Int} (h : Inv s t u L M) (r : Rmx s s' t t' n i) (hL : L = l1 ++ x :: l2) (hx : x.1 = i) : Inv1 s' t' u (l1 ++ l2) M x.1 := by
  have nC : n ∈ t.cells := r.pc.mem_iff.2 (by simp)
  have iC : i ∈ t.cells := r.pc.mem_iff.2 (by simp)
  have nod := r.pc.nodup_iff.1 h.a.hp.nod
  simp only [List.nodup_cons, List.mem_cons, not_or] at nod
  obtain ⟨⟨n1, n2⟩, n3, n4⟩ := nod
  have hu : ∀ c ∈ u.cells, LS s' c = LS s c ∧ ∀ j, hasS s' c j = hasS s c j := fun c hc =>
    ⟨by rw [r.ls, if_neg (fun q : c = n => h.dj n nC (q ▸ hc))], r.out c fun q => h.dj c q hc⟩
  have b := h.b.keep hu
  have sub : ∀ c ∈ t'.cells, c ∈ t.cells := fun c hc => r.pc.mem_iff.2 (by simp [hc])
  have pm : ((l1 ++ l2).map fun x => x.1).Perm t'.items := by
    have p3 : (L.map fun x => x.1).Perm (x.1 :: (l1 ++ l2).map fun x => x.1) := by
      rw [hL, List.map_append, List.map_append, List.map_cons]
      exact List.perm_middle
    have p4 := p3.symm.trans (h.a.pm.trans r.pi)
    rw [hx] at p4
    exact p4.cons_inv
  refine ⟨r.ok, ⟨r.hp, pm, fun y hy => ?_⟩, b, fun c hc q => h.dj c (sub c hc) q, ?_, ?_, ⟨by rw [hx]; exact n3, fun q => h.dj i iC (hx ▸ q)⟩, ?_⟩
  · have yL : y ∈ L := by rw [hL]; rcases List.mem_append.1 hy with z | z <;> simp [z]
    rw [r.key y.1 7 (by decide), r.key y.1 8 (by decide), if_neg (by omega), if_neg (by omega)]
    exact h.a.en y yL
  · have h1 := r.num
    have h2 := h.num
    have h3 : L.length = (l1 ++ l2).length + 1 := by rw [hL]; simp; omega
    omega
  · rw [hx, r.ls, if_neg (fun q => n1 q.symm)]
    exact h.a.live i iC
  · rw [hx, r.key i 9 (by decide), if_pos ⟨rfl, rfl⟩]
/-- a node is new in a heap -/
structure Psh (s s' : St) (t t' : Tr) (n i : Nat) : Prop where
  hp : Hpp s' t'
  pc : t'.cells.Perm (n :: i :: t.cells)
  pi : t'.items.Perm (i :: t.items)
  ok : Ok s'
  num : cnt s'.pl = cnt s.pl + 1
  most : s'.most = s.most
  new : LS s n = false
  ls : ∀ c, LS s' c = if c = n then true else LS s c
  key : ∀ c j, 6 ≤ j → c ≠ n → (c ≠ i ∨ j ≠ 9) → hasS s' c j = hasS s c j
  out : ∀ c, c ∉ t.cells → c ≠ n → c ≠ i → ∀ j, hasS s' c j = hasS s c j
theorem push_inv (h : Inv1 s t u L M i) (p : Psh s s' t t' n i) : Inv s' t' u (L ++ [(i, hasS s i 7, hasS s i 8)]) M := by
  have nl : ∀ c, LS s c = true → c ≠ n := fun c hc q => by rw [q, p.new] at hc; cases hc
  have hu : ∀ c ∈ u.cells, LS s' c = LS s c ∧ ∀ j, hasS s' c j = hasS s c j := fun c hc => by
    have c1 : c ∉ t.cells := fun q => h.dj c q hc
    have c2 : c ≠ i := fun q => h.out.2 (q ▸ hc)
    have c3 := nl c (h.b.live c hc)
    exact ⟨by rw [p.ls, if_neg c3], p.out c c1 c3 c2⟩
  refine ⟨p.ok, ⟨p.hp, ?_, fun y hy => ?_⟩, h.b.keep hu, fun c hc q => ?_, ?_⟩
  · rw [List.map_append]
    refine (h.a.pm.append_right _).trans ?_
    exact (List.perm_append_comm).trans p.pi.symm
  · rcases List.mem_append.1 hy with z | z
    · have yl := h.a.live _ (item_cell (h.a.mem z))
      rw [p.key y.1 7 (by decide) (nl _ yl) (Or.inr (by decide)), p.key y.1 8 (by decide) (nl _ yl) (Or.inr (by decide))]
      exact h.a.en y z
    · have z : y = (i, hasS s i 7, hasS s i 8) := by simpa using z
      rw [z]
      exact ⟨p.key i 7 (by decide) (nl _ h.live) (Or.inr (by decide)), p.key i 8 (by decide) (nl _ h.live) (Or.inr (by decide))⟩
  · have := p.pc.mem_iff.1 hc
    simp only [List.mem_cons] at this
    rcases this with z | z | z
    · exact nl c (h.b.live c q) z
    · exact h.out.2 (z ▸ q)
    · exact h.dj c z q
  · rw [p.num, h.num, List.length_append]; simp; omega
/-- two heaps are one -/
structure Mld (s s' : St) (t u t' : Tr) : Prop where
  hp : Hpp s' t'
  pc : t'.cells.Perm (t.cells ++ u.cells)
  pi : t'.items.Perm (t.items ++ u.items)
  tch : Tch s s' (t.cells ++ u.cells)
theorem meld_inv (h : Inv s t u L M) (m : Mld s s' t u t') : Inv s' t' nilQ (L ++ M) [] := by
  refine ⟨m.tch.sm.ok, ⟨m.hp, ?_, fun x hx => ?_⟩, Hh.nil _, fun c _ q => by simp [cells, nilQ] at q, ?_⟩
  · rw [List.map_append]
    exact ((h.a.pm.append_right _).trans (List.Perm.append_left _ h.b.pm)).trans m.pi.symm
  · rw [m.tch.key x.1 7 (by decide), m.tch.key x.1 8 (by decide)]
    exact (List.mem_append.1 hx).elim (h.a.en x) (h.b.en x)
  · rw [cnt_sm h.ok m.tch.sm, h.num, List.length_append]; simp
end
end Go.Proofs.Ythfdooigljkfiaa
