/- Several texts in one. -/
import Derived.Test.YthfdooigljkfiaaGreatGf
import Derived.Test.YthfdooigljkfiaaGreatAl
import Derived.Test.YthfdooigljkfiaaGreatGh
/- All nodes of a heap are given back, and then its items: as plain data. -/
namespace Go.Proofs.YthfdooigljkfiaaGreat
open Go.ChangeShapes Go.WideShapes Go.ChangeAt Go.RowKit
open Tr

section
variable {s : St}
theorem gb_view2 {n i : Nat} (ok : Ok s) (ln : LS s n = true) (li : LS s i = true) (h6 : hasS s n 6 = (i : Int)) :
    Ok (gbS s (n : Int)) ∧ (gbS s (n : Int)).back = s.back ++ [n] ∧ (gbS s (n : Int)).pl.length = s.pl.length ∧
    (∀ c, LS (gbS s (n : Int)) c = if c = n then false else LS s c) ∧ (∀ c j, hasS (gbS s (n : Int)) c j = if c = i ∧ j = 9 then -1 else hasS s c j) := by
  unfold gbS
  have c6 : cellS s (n : Int) 6 = (i : Int) := cell_nat (j := 6) ok ln (by decide) h6 li
  rw [c6]
  have s4 := (Sm.tk ok 1).trans (Sm.set (Sm.tk ok 1).ok (i : Int) 9 (-1))
  have v4 : hasS (setS (tk s 1) (i : Int) 9 (-1)) = put (hasS s) i 9 (-1) := set_has (s := tk s 1) (j := 9) li (by decide)
  generalize setS (tk s 1) (i : Int) 9 (-1) = s5 at *
  have ln5 : LS s5 n = true := by rw [s4.ls]; exact ln
  obtain ⟨g1, g2⟩ := give_back ln5
  refine ⟨s4.ok.give, by rw [g1, s4.back], by rw [g2, s4.len], fun c => ?_, fun c j => ?_⟩
  · rw [give_ls ln5, s4.ls]
  · rw [give_has ln5, v4]
    by_cases e : c = i ∧ j = 9
    · rw [if_pos e, e.1, e.2, put_at]
    · rw [if_neg e, put_or (by by_cases z : c = i; · right; exact fun y => e ⟨z, y⟩
                               · left; exact z)]
end
/-- nodes given back, one behind the other -/
def dgS : St → List Nat → St
  | s, [] => s
  | s, n :: r => dgS (gbS s (n : Int)) r
theorem dg_steps : ∀ (D : List Nat) (s : St), (dgS s D).steps = s.steps + 3 * D.length
  | [], s => rfl
  | n :: r, s => by
    show (dgS (gbS s (n : Int)) r).steps = _
    rw [dg_steps r, gb_steps, List.length_cons]; omega
theorem dg_most : ∀ (D : List Nat) (s : St), (dgS s D).most = s.most
  | [], s => rfl
  | n :: r, s => by
    show (dgS (gbS s (n : Int)) r).most = _
    rw [dg_most r, gb_most]
theorem dg_append : ∀ (D : List Nat) (n : Nat) (s : St), dgS s (D ++ [n]) = gbS (dgS s D) (n : Int)
  | [], _, _ => rfl
  | m :: r, n, s => dg_append r n (gbS s (m : Int))
/-- what they are then -/
structure Dgv (f : Nat → Nat) (D : List Nat) (s s' : St) : Prop where
  ok : Ok s'
  gone : ∀ c ∈ D, LS s' c = false
  ls : ∀ c, c ∉ D → LS s' c = LS s c
  free : ∀ n ∈ D, hasS s' (f n) 9 = -1
  rest : ∀ c j, (j ≠ 9 ∨ ∀ n ∈ D, f n ≠ c) → hasS s' c j = hasS s c j
  num : s'.back.length = s.back.length + D.length
  len : s'.pl.length = s.pl.length
theorem dg_view (f : Nat → Nat) : ∀ (D : List Nat) (s : St), Ok s → D.Nodup → (∀ n ∈ D, LS s n = true ∧ LS s (f n) = true ∧ hasS s n 6 = (f n : Int)) → (∀ n ∈ D, ∀ m ∈ D, f m ≠ n) → Dgv f D s (dgS s D)
  | [], s, ok, _, _, _ => ⟨ok, fun c h => (by cases h), fun _ _ => rfl, fun n h => (by cases h), fun _ _ _ => rfl, rfl, rfl⟩
  | n :: r, s, ok, hd, hl, hf => by
    obtain ⟨l1, l2, l3⟩ := hl n (by simp)
    obtain ⟨v1, v2, v3, v4, v5⟩ := gb_view2 ok l1 l2 l3
    rw [List.nodup_cons] at hd
    have ih := dg_view f r (gbS s (n : Int)) v1 hd.2 (fun m hm => by
      obtain ⟨a1, a2, a3⟩ := hl m (by simp [hm])
      have hmn : m ≠ n := fun e => hd.1 (e ▸ hm)
      refine ⟨by rw [v4, if_neg hmn]; exact a1, by rw [v4, if_neg (hf n (by simp) m (by simp [hm]))]; exact a2, by rw [v5, if_neg (by omega)]; exact a3⟩) (fun a ha b hb => hf a (by simp [ha]) b (by simp [hb]))
    refine ⟨ih.ok, fun c hc => ?_, fun c hc => ?_, fun m hm => ?_, fun c j h => ?_, ?_, ?_⟩
    · rw [List.mem_cons] at hc
      by_cases q : c ∈ r
      · exact ih.gone c q
      · rcases hc with rfl | hc
        · show LS (dgS (gbS s (c : Int)) r) c = false
          rw [ih.ls c q, v4, if_pos rfl]
        · exact absurd hc q
    · rw [List.mem_cons, not_or] at hc
      show LS (dgS (gbS s (n : Int)) r) c = LS s c
      rw [ih.ls c hc.2, v4, if_neg hc.1]
    · rw [List.mem_cons] at hm
      by_cases q : ∃ k ∈ r, f k = f m
      · obtain ⟨k, hk, e⟩ := q
        rw [← e]; exact ih.free k hk
      · rcases hm with rfl | hm
        · show hasS (dgS (gbS s (m : Int)) r) (f m) 9 = -1
          rw [ih.rest (f m) 9 (Or.inr fun k hk e => q ⟨k, hk, e⟩), v5, if_pos ⟨rfl, rfl⟩]
        · exact absurd ⟨m, hm, rfl⟩ q
    · show hasS (dgS (gbS s (n : Int)) r) c j = hasS s c j
      rw [ih.rest c j (h.imp id fun z k hk => z k (by simp [hk])), v5, if_neg]
      rintro ⟨e1, e2⟩
      rcases h with h | h
      · exact h e2
      · exact h n (by simp) e1.symm
    · show (dgS (gbS s (n : Int)) r).back.length = _
      rw [ih.num, v2]; simp; omega
    · show (dgS (gbS s (n : Int)) r).pl.length = _
      rw [ih.len, v3]
/-- items given back, one behind the other, each looked at first -/
def giS : St → List Nat → St
  | s, [] => s
  | s, i :: r => giS (giveS (tk s 1) (i : Int)) r
theorem gi_steps : ∀ (D : List Nat) (s : St), (giS s D).steps = s.steps + 2 * D.length
  | [], s => rfl
  | n :: r, s => by
    show (giS (giveS (tk s 1) (n : Int)) r).steps = _
    rw [gi_steps r, give_steps, List.length_cons]; show s.steps + 1 + 1 + _ = _; omega
theorem gi_most : ∀ (D : List Nat) (s : St), (giS s D).most = s.most
  | [], s => rfl
  | n :: r, s => by
    show (giS (giveS (tk s 1) (n : Int)) r).most = _
    rw [gi_most r, give_most]; rfl
theorem gi_append : ∀ (D : List Nat) (n : Nat) (s : St), giS s (D ++ [n]) = giveS (tk (giS s D) 1) (n : Int)
  | [], _, _ => rfl
  | m :: r, n, s => gi_append r n (giveS (tk s 1) (m : Int))
structure Gi (D : List Nat) (s s' : St) : Prop where
  ok : Ok s'
  ls : ∀ c, c ∉ D → LS s' c = LS s c
  rest : ∀ c j, hasS s' c j = hasS s c j
  num : s'.back.length = s.back.length + D.length
  len : s'.pl.length = s.pl.length
theorem gi_view : ∀ (D : List Nat) (s : St), Ok s → D.Nodup → (∀ n ∈ D, LS s n = true) → Gi D s (giS s D)
  | [], s, ok, _, _ => ⟨ok, fun _ _ => rfl, fun _ _ => rfl, rfl, rfl⟩
  | n :: r, s, ok, hd, hl => by
    have l1 : LS (tk s 1) n = true := hl n (by simp)
    have ok1 := (Sm.tk ok 1).ok
    have e1 := give_ls l1
    have e2 := give_has l1
    obtain ⟨e3, e4⟩ := give_back l1
    rw [List.nodup_cons] at hd
    have ih := gi_view r (giveS (tk s 1) (n : Int)) ok1.give hd.2 (fun m hm => by
      have hmn : m ≠ n := fun e => hd.1 (e ▸ hm)
      rw [e1]; simp only; rw [if_neg hmn]; exact hl m (by simp [hm]))
    refine ⟨ih.ok, fun c hc => ?_, fun c j => ?_, ?_, ?_⟩
    · rw [List.mem_cons, not_or] at hc
      show LS (giS (giveS (tk s 1) (n : Int)) r) c = _
      rw [ih.ls c hc.2, e1]; simp only; rw [if_neg hc.1]; rfl
    · show hasS (giS (giveS (tk s 1) (n : Int)) r) c j = _
      rw [ih.rest, e2]; rfl
    · show (giS (giveS (tk s 1) (n : Int)) r).back.length = _
      rw [ih.num, e3, List.length_append]; show s.back.length + 1 + _ = _; simp; omega
    · show (giS (giveS (tk s 1) (n : Int)) r).pl.length = _
      rw [ih.len, e4]; rfl
end Go.Proofs.YthfdooigljkfiaaGreat

/- Drop, as it turns two heaps. -/
namespace Go.Proofs.YthfdooigljkfiaaGreat
open Go.ChangeShapes Go.WideShapes Go.ChangeAt Go.RowKit
open Tr

section
variable {s : St} {t u : Tr} {L M : List (Nat × Int × Int)}
theorem cells_both : ∀ t : Tr, t.cells.Perm (t.nodes ++ t.items)
  | lf => .refl _
  | nd n i l r => by
    have h1 := cells_both l
    have h2 := cells_both r
    rw [List.perm_iff_count] at h1 h2 ⊢
    intro a
    have e1 := h1 a
    have e2 := h2 a
    simp only [List.count_append] at e1 e2
    simp only [cells, nodes, items, List.count_append, List.count_cons, List.cons_append]
    omega
theorem hh_cells (h : Hh s t L) : t.nodes.Nodup ∧ t.items.Nodup ∧ (∀ n ∈ t.nodes, ∀ i ∈ t.items, n ≠ i) := by
  have := (cells_both t).nodup_iff.1 h.hp.nod
  rw [List.nodup_append] at this
  exact this
theorem its_nodup (h : Hh s t L) : (its s t).Nodup := (hh_cells h).2.1
theorem node_in {n : Nat} (hn : n ∈ t.nodes) : n ∈ t.cells := (cells_both t).mem_iff.2 (List.mem_append_left _ hn)
theorem item_in {n : Nat} (hn : n ∈ t.items) : n ∈ t.cells := (cells_both t).mem_iff.2 (List.mem_append_right _ hn)
/-- the nodes are given back -/
theorem dg_heap (h : Inv s t u L M) {D : List Nat} (hD : D.Perm t.nodes) (q : Nat) : Dgv (itS s) D (tk s q) (dgS (tk s q) D) ∧ ∀ i ∈ its s t, LS (dgS (tk s q) D) i = true ∧ hasS (dgS (tk s q) D) i 9 = -1 := by
  obtain ⟨e0, e1⟩ := nd_its h.a.hp.vp
  obtain ⟨d1, d2, d3⟩ := hh_cells h.a
  have itm : ∀ n ∈ t.nodes, itS s n ∈ t.items ∧ hasS s n 6 = (itS s n : Int) ∧ LS s (itS s n) = true := fun n hn => by
    obtain ⟨_, i, b, c⟩ := e1 n hn
    have hi : itS s n = i := by unfold itS; rw [b]; rfl
    refine ⟨?_, by rw [hi]; exact b, by rw [hi]; exact c⟩
    have : itS s n ∈ its s t := by rw [e0]; exact List.mem_map.2 ⟨n, hn, rfl⟩
    exact this
  have g := dg_view (itS s) D (tk s q) (Sm.tk h.ok q).ok (hD.nodup_iff.2 d1) (fun n hn => ⟨(e1 n (hD.mem_iff.1 hn)).1, (itm n (hD.mem_iff.1 hn)).2.2, (itm n (hD.mem_iff.1 hn)).2.1⟩) (fun n hn m hm e => d3 n (hD.mem_iff.1 hn) (itS s m) (itm m (hD.mem_iff.1 hm)).1 e.symm)
  refine ⟨g, fun i hi => ?_⟩
  have hi2 := hi
  rw [e0] at hi2
  obtain ⟨n, hn, e⟩ := List.mem_map.1 hi2
  have hnD := hD.mem_iff.2 hn
  refine ⟨?_, by rw [← e]; exact g.free n hnD⟩
  rw [g.ls i (fun z => d3 i (hD.mem_iff.1 z) i hi rfl), ← e]
  exact (itm n hn).2.2
/-- and then the items -/
theorem drop_inv (h : Inv s t u L M) {D m : List Nat} (hD : D.Perm t.nodes) (hm : m.Perm (its s t)) (q : Nat) : Inv (giS (dgS (tk s q) D) m) nilQ u [] M ∧ pot (giS (dgS (tk s q) D) m) nilQ u ≤ pot s t u := by
  obtain ⟨g, gi⟩ := dg_heap h hD q
  have v := gi_view m (dgS (tk s q) D) g.ok (hm.nodup_iff.2 (its_nodup h.a)) (fun i hi => (gi i (hm.mem_iff.1 hi)).1)
  have huc : ∀ c ∈ cel s u, c ∉ D ∧ c ∉ m ∧ ∀ n ∈ D, itS s n ≠ c := fun c hc => ⟨fun z => h.dj c (node_in (hD.mem_iff.1 z)) hc, fun z => h.dj c (item_in (hm.mem_iff.1 z)) hc, fun n hn e => h.dj c (item_in (by have q : itS s n ∈ its s t := (by rw [(nd_its h.a.hp.vp).1]; exact List.mem_map.2 ⟨n, hD.mem_iff.1 hn, rfl⟩); rw [e] at q; exact q)) hc⟩
  have hk : ∀ c ∈ cel s u, LS (giS (dgS (tk s q) D) m) c = LS s c ∧ ∀ j, hasS (giS (dgS (tk s q) D) m) c j = hasS s c j := fun c hc => by
    obtain ⟨h1, h2, h3⟩ := huc c hc
    exact ⟨by rw [v.ls c h2, g.ls c h1]; rfl, fun j => by rw [v.rest, g.rest c j (Or.inr h3)]; rfl⟩
  have b := h.b.keep hk
  refine ⟨⟨v.ok, Hh.nil _, b, fun c hc => by simp [cells, nilQ] at hc, ?_⟩, ?_⟩
  · have c1 := v.ok.count
    have c2 := h.ok.count
    rw [v.num, v.len, g.num, g.len] at c1
    have e1 : (tk s q).back = s.back := rfl
    have e2 : (tk s q).pl = s.pl := rfl
    rw [e1, e2] at c1
    have c3 := h.num
    have c4 : D.length = L.length := by rw [hD.length_eq, ← h.a.len, ← size_items t, ← List.length_map (f := itS s), ← (nd_its h.a.hp.vp).1]; rfl
    have c5 : m.length = L.length := by
      have := h.a.len
      rw [hm.length_eq]; unfold its; rw [size_items]; exact this
    simp
    omega
  · unfold pot
    simp only [nilQ, ph]
    omega
end
end Go.Proofs.YthfdooigljkfiaaGreat

/- node.Drop, Drop. -/
namespace Go.Proofs.YthfdooigljkfiaaGreat
open Go.ChangeShapes Go.WideShapes Go.ChangeAt Go.RowKit
open Tr

set_option maxHeartbeats 2000000 in
theorem ndropT {F : Nat → Prop} {w : World} {pa pm base : Nat} {s : St} {v : Value} {D : List Nat} (h : IsA w F pa pm s) (hv : w.ownsRow base 3 1 v D.length (row nat1 D)) (hF : ∀ b, v.ownBlock = some b → ¬ F b) (hc : ∀ n ∈ D, cellS s (n : Int) 6 = (itS s n : Int)) (hz : D.length ≤ 1000) (hs : s.steps ≤ 80000000) :
    Calls Tryz.prog 60 #[.pointer (some ⟨pa, 0, none⟩), v] w fun e w' => ∃ v' m w1, e = .returned v' ∧ m.Perm (D.map (itS s)) ∧ m.Pairwise (fun a b => a ≤ b) ∧ Ex F w w1 pa pm (tk s D.length) ∧ w1.ownsRow w.heap.size 3 1 v' m.length (row nat1 m) ∧ Aft F w1 w' pa pm (dgS (tk s D.length) D) := by
  have I := hid (itemsT h hv hF hc hz (by omega))
  have HV := hid hv
  have HF := hid hF
  have FL := hid h.lt
  obtain ⟨va, vc, rfl⟩ := own_form hv
  clear h hv hF hc
  go_enter Tryz.func60, Tryz.ntmps60
  go_wp2_with fail
  refine I.out.mono ?_
  rintro e w1 ⟨v', m, rfl, o1, hp, hpw, e1⟩
  have O1 := hid o1
  have HP := hid hp
  have HPW := hid hpw
  have E1 := hid e1
  have V1 := hid (own_kept HV.out e1.kept (fun b hb => HF.out b hb))
  have A1 := hid (Aft.start e1.is)
  clear I o1 hp hpw e1 HV
  go_wp2_with fail
  go_loopw [7, 13] (fun _ iv wr => ∃ a : Nat, iv = .int .i64 a ∧ a ≤ D.length ∧ wr.ownsRow base 3 1 (.slice va D.length vc) D.length (row nat1 D) ∧ Aft F w1 wr pa pm (dgS (tk s D.length) (D.take a))) (fun _ i _ => D.length - (intOf i).toNat)
  case atStart => exact ⟨0, rfl, Nat.zero_le _, V1.out, A1.out⟩
  case round =>
    obtain ⟨a, rfl, ha, hv, hA⟩ := hrel
    clear A1
    have HVR := hid hv
    have HA := hid hA
    by_cases hlt : a < D.length
    · have hx : D[a]? = some D[a] := List.getElem?_eq_getElem hlt
      obtain ⟨g, cap, e, hg, _, hcell⟩ := own1_at hv nat1_len hx
      obtain rfl : va = some ⟨g, 0, none⟩ := by injection e
      have ET := hid (show D.take (a + 1) = D.take a ++ [D[a]] by rw [List.take_add_one, hx]; rfl)
      generalize D[a] = x at *
      replace hcell : wr.cell? ⟨g, a, none⟩ = some (.int .i64 (x : Int)) := hcell
      have hlt' : (a : Int) < (D.length : Int) := by omega
      have GB := hid (giveBackT (x : Int) hA (by rw [dg_steps]; show s.steps + D.length + 3 * _ ≤ _; have := List.length_take_le a D; omega))
      clear hx hv hA e
      go_wp2_with fail
      refine GB.out.mono ?_
      rintro e w4 ⟨rfl, h4⟩
      have H4 := hid h4
      clear h4 GB HA HVR
      go_wp2
      go_roundw
      case rel => exact ⟨a + 1, by go_num, by omega, own_kept V1.out H4.out.kept (fun b hb => HF.out b hb), by rw [ET.out, dg_append]; exact H4.out⟩
      case measure => simp [intOf]; omega
    · obtain rfl : a = D.length := by omega
      have hge : decide ((D.length : Int) < (D.length : Int)) = false := by simp
      obtain ⟨xa, xc, rfl⟩ := own_form O1.out
      clear hv hA HVR
      go_wp2
      go_ret
      exact ⟨_, m, w1, rfl, HP.out, HPW.out, E1.out, O1.out, by have := HA.out; rw [List.take_length] at this; exact this⟩

set_option maxHeartbeats 2000000 in
/-- Drop, ahead of the items' giving back -/
theorem dropC {F : Nat → Prop} {w : World} {pa pm : Nat} {s : St} {t u : Tr} {L M : List (Nat × Int × Int)} (h : Inv s t u L M) (hl : L.length ≤ 1000) (hi : IsA w F pa pm s) (hs : s.steps ≤ 79000000) :
    Calls Tryz.prog 41 #[.pointer (some ⟨pa, 0, none⟩), .int .i64 (headr t)] w fun e w' => ∃ v' m w1 D k, e = .returned v' ∧ D.Perm (t.nodes) ∧ m.Perm (its s t) ∧ m.Pairwise (fun a b => a ≤ b) ∧ k ≤ 51 + 51 * L.length ∧ Ex F w w1 pa pm (tk s k) ∧ w1.ownsRow w.heap.size 3 1 v' m.length (row nat1 m) ∧ Aft F w1 w' pa pm (dgS (tk s k) D) := by
  have N := hid (nodesN h hl hi (by omega))
  have FL := hid hi.lt
  have HC := hid (hh_cell h)
  have HM := hid (nd_its h.a.hp.vp).1
  have hz : t.nodes.length = L.length := by rw [← h.a.len]; exact size_nodes t
  clear h hi
  generalize headr t = r0 at *
  go_enter Tryz.func41, Tryz.ntmps41
  go_wp2_with fail
  refine N.out.mono ?_
  rintro e w1 ⟨v, D, k, rfl, o1, p1, hk, e1⟩
  have hD : D.length = L.length := by rw [p1.length_eq]; exact hz
  have ND := hid (ndropT e1.is o1 (fun b hb q => by have := FL.out b q; have := (o1.lt b hb).1; omega) (fun m hm => (HC.out m (p1.mem_iff.1 hm) : cellS s (m : Int) 6 = (itS s m : Int))) (by omega) (by show s.steps + k ≤ _; omega))
  have E1 := hid e1
  have P1 := hid p1
  have HK := hid hk
  have HD := hid hD
  obtain ⟨va, vc, rfl⟩ := own_form o1
  clear N o1 p1 e1 hk hD hz
  go_wp2_with fail
  refine ND.out.mono ?_
  rintro e w2 ⟨v', m, w3, rfl, hp, hpw, e3, o3, a3⟩
  have E3 := hid e3
  have O3 := hid o3
  have A3 := hid a3
  have PP := hid (show m.Perm (its s t) by rw [HM.out]; exact List.Perm.trans (show m.Perm (D.map (itS s)) from hp) (P1.out.map _))
  have HPW := hid hpw
  obtain ⟨xa, xc, rfl⟩ := own_form o3
  clear hp hpw e3 o3 a3 ND
  go_wp2
  go_ret
  refine ⟨_, m, w3, D, k + D.length, rfl, P1.out, PP.out, HPW.out, by have := HK.out; have := HD.out; omega, ?_, own_base O3.out E1.out.kept.size, ?_⟩
  · rw [← tk_tk]; exact E1.out.stay E3.out.is E3.out.kept
  · rw [← tk_tk]; exact A3.out
end Go.Proofs.YthfdooigljkfiaaGreat
