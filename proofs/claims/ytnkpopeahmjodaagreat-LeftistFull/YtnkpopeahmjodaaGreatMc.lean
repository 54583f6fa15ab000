/- Several texts in one. -/
import Derived.Test.YtnkpopeahmjodaaGreatTy
import Derived.Test.YtnkpopeahmjodaaGreatAl
import Derived.Test.YtnkpopeahmjodaaGreatCe
import Derived.Test.YtnkpopeahmjodaaGreatTz
import Derived.Test.YtnkpopeahmjodaaGreatNn
/- All nodes of a heap are given back, and then its items: as plain data. -/
namespace Go.Proofs.YtnkpopeahmjodaaGreat
open Go.ChangeShapes Go.WideShapes Go.ChangeAt Go.RowKit
open Tr

section
variable {s : St}
theorem gb_view {n i : Nat} (ok : Ok s) (ln : LS s n = true) (li : LS s i = true) (h6 : hasS s n 6 = (i : Int)) :
    Ok (gbS s (n : Int)) ∧ (gbS s (n : Int)).back = s.back ++ [n] ∧ (gbS s (n : Int)).pl.length = s.pl.length ∧
    (∀ c, LS (gbS s (n : Int)) c = if c = n then false else LS s c) ∧ (∀ c j, hasS (gbS s (n : Int)) c j = if c = i ∧ j = 9 then -1 else hasS s c j) := by
  unfold gbS
  have c6 : cellS s (n : Int) 6 = (i : Int) := cell_nat (j := 6) ok ln (by decide) h6 li
  rw [c6]
  have s4 := (Sm.tk ok 1).trans (Sm.set (Sm.tk ok 1).ok (i : Int) 9 (-1))
  have v4 : hasS (setS (tk s 1) (i : Int) 9 (-1)) = put (hasS s) i 9 (-1) := set_has (s := tk s 1) (j := 9) li (by decide)
  generalize setS (tk s 1) (i : Int) 9 (-1) = s5 at *
  have ln5 : LS s5 n = true := by rw [s4.ls]; exact ln
  obtain ⟨g1, g2⟩ := give_back ln5
  refine ⟨s4.ok.give, by rw [g1, s4.back], by rw [g2, s4.len], fun c => ?_, fun c j => ?_⟩
  · rw [give_ls ln5, s4.ls]
  · rw [give_has ln5, v4]
    by_cases e : c = i ∧ j = 9
    · rw [if_pos e, e.1, e.2, put_at]
    · rw [if_neg e, put_or (by by_cases z : c = i; · right; exact fun y => e ⟨z, y⟩
                               · left; exact z)]
end
/-- nodes given back, one behind the other -/
def dgS : St → List Nat → St
  | s, [] => s
  | s, n :: r => dgS (gbS s (n : Int)) r
theorem dg_steps : ∀ (D : List Nat) (s : St), (dgS s D).steps = s.steps + 3 * D.length
  | [], s => rfl
  | n :: r, s => by
    show (dgS (gbS s (n : Int)) r).steps = _
    rw [dg_steps r, gb_steps, List.length_cons]; omega
theorem dg_most : ∀ (D : List Nat) (s : St), (dgS s D).most = s.most
  | [], s => rfl
  | n :: r, s => by
    show (dgS (gbS s (n : Int)) r).most = _
    rw [dg_most r, gb_most]
theorem dg_append : ∀ (D : List Nat) (n : Nat) (s : St), dgS s (D ++ [n]) = gbS (dgS s D) (n : Int)
  | [], _, _ => rfl
  | m :: r, n, s => dg_append r n (gbS s (m : Int))
/-- what they are then -/
structure Dg (f : Nat → Nat) (D : List Nat) (s s' : St) : Prop where
  ok : Ok s'
  gone : ∀ c ∈ D, LS s' c = false
  ls : ∀ c, c ∉ D → LS s' c = LS s c
  free : ∀ n ∈ D, hasS s' (f n) 9 = -1
  rest : ∀ c j, (j ≠ 9 ∨ ∀ n ∈ D, f n ≠ c) → hasS s' c j = hasS s c j
  num : s'.back.length = s.back.length + D.length
  len : s'.pl.length = s.pl.length
theorem dg_view (f : Nat → Nat) : ∀ (D : List Nat) (s : St), Ok s → D.Nodup → (∀ n ∈ D, LS s n = true ∧ LS s (f n) = true ∧ hasS s n 6 = (f n : Int)) → (∀ n ∈ D, ∀ m ∈ D, f m ≠ n) → Dg f D s (dgS s D)
  | [], s, ok, _, _, _ => ⟨ok, fun c h => (by cases h), fun _ _ => rfl, fun n h => (by cases h), fun _ _ _ => rfl, rfl, rfl⟩
  | n :: r, s, ok, hd, hl, hf => by
    obtain ⟨l1, l2, l3⟩ := hl n (by simp)
    obtain ⟨v1, v2, v3, v4, v5⟩ := gb_view ok l1 l2 l3
    rw [List.nodup_cons] at hd
    have ih := dg_view f r (gbS s (n : Int)) v1 hd.2 (fun m hm => by
      obtain ⟨a1, a2, a3⟩ := hl m (by simp [hm])
      have hmn : m ≠ n := fun e => hd.1 (e ▸ hm)
      refine ⟨by rw [v4, if_neg hmn]; exact a1, by rw [v4, if_neg (hf n (by simp) m (by simp [hm]))]; exact a2, by rw [v5, if_neg (by omega)]; exact a3⟩) (fun a ha b hb => hf a (by simp [ha]) b (by simp [hb]))
    refine ⟨ih.ok, fun c hc => ?_, fun c hc => ?_, fun m hm => ?_, fun c j h => ?_, ?_, ?_⟩
    · rw [List.mem_cons] at hc
      by_cases q : c ∈ r
      · exact ih.gone c q
      · rcases hc with rfl | hc
        · show LS (dgS (gbS s (c : Int)) r) c = false
          rw [ih.ls c q, v4, if_pos rfl]
        · exact absurd hc q
    · rw [List.mem_cons, not_or] at hc
      show LS (dgS (gbS s (n : Int)) r) c = LS s c
      rw [ih.ls c hc.2, v4, if_neg hc.1]
    · rw [List.mem_cons] at hm
      by_cases q : ∃ k ∈ r, f k = f m
      · obtain ⟨k, hk, e⟩ := q
        rw [← e]; exact ih.free k hk
      · rcases hm with rfl | hm
        · show hasS (dgS (gbS s (m : Int)) r) (f m) 9 = -1
          rw [ih.rest (f m) 9 (Or.inr fun k hk e => q ⟨k, hk, e⟩), v5, if_pos ⟨rfl, rfl⟩]
        · exact absurd ⟨m, hm, rfl⟩ q
    · show hasS (dgS (gbS s (n : Int)) r) c j = hasS s c j
      rw [ih.rest c j (h.imp id fun z k hk => z k (by simp [hk])), v5, if_neg]
      rintro ⟨e1, e2⟩
      rcases h with h | h
      · exact h e2
      · exact h n (by simp) e1.symm
    · show (dgS (gbS s (n : Int)) r).back.length = _
      rw [ih.num, v2]; simp; omega
    · show (dgS (gbS s (n : Int)) r).pl.length = _
      rw [ih.len, v3]
/-- items given back, one behind the other, each looked at first -/
def giS : St → List Nat → St
  | s, [] => s
  | s, i :: r => giS (giveS (tk s 1) (i : Int)) r
theorem gi_steps : ∀ (D : List Nat) (s : St), (giS s D).steps = s.steps + 2 * D.length
  | [], s => rfl
  | n :: r, s => by
    show (giS (giveS (tk s 1) (n : Int)) r).steps = _
    rw [gi_steps r, give_steps, List.length_cons]; show s.steps + 1 + 1 + _ = _; omega
theorem gi_most : ∀ (D : List Nat) (s : St), (giS s D).most = s.most
  | [], s => rfl
  | n :: r, s => by
    show (giS (giveS (tk s 1) (n : Int)) r).most = _
    rw [gi_most r, give_most]; rfl
theorem gi_append : ∀ (D : List Nat) (n : Nat) (s : St), giS s (D ++ [n]) = giveS (tk (giS s D) 1) (n : Int)
  | [], _, _ => rfl
  | m :: r, n, s => gi_append r n (giveS (tk s 1) (m : Int))
structure Gi (D : List Nat) (s s' : St) : Prop where
  ok : Ok s'
  ls : ∀ c, c ∉ D → LS s' c = LS s c
  rest : ∀ c j, hasS s' c j = hasS s c j
  num : s'.back.length = s.back.length + D.length
  len : s'.pl.length = s.pl.length
theorem gi_view : ∀ (D : List Nat) (s : St), Ok s → D.Nodup → (∀ n ∈ D, LS s n = true) → Gi D s (giS s D)
  | [], s, ok, _, _ => ⟨ok, fun _ _ => rfl, fun _ _ => rfl, rfl, rfl⟩
  | n :: r, s, ok, hd, hl => by
    have l1 : LS (tk s 1) n = true := hl n (by simp)
    have ok1 := (Sm.tk ok 1).ok
    have e1 := give_ls l1
    have e2 := give_has l1
    obtain ⟨e3, e4⟩ := give_back l1
    rw [List.nodup_cons] at hd
    have ih := gi_view r (giveS (tk s 1) (n : Int)) ok1.give hd.2 (fun m hm => by
      have hmn : m ≠ n := fun e => hd.1 (e ▸ hm)
      rw [e1]; simp only; rw [if_neg hmn]; exact hl m (by simp [hm]))
    refine ⟨ih.ok, fun c hc => ?_, fun c j => ?_, ?_, ?_⟩
    · rw [List.mem_cons, not_or] at hc
      show LS (giS (giveS (tk s 1) (n : Int)) r) c = _
      rw [ih.ls c hc.2, e1]; simp only; rw [if_neg hc.1]; rfl
    · show hasS (giS (giveS (tk s 1) (n : Int)) r) c j = _
      rw [ih.rest, e2]; rfl
    · show (giS (giveS (tk s 1) (n : Int)) r).back.length = _
      rw [ih.num, e3, List.length_append]; show s.back.length + 1 + _ = _; simp; omega
    · show (giS (giveS (tk s 1) (n : Int)) r).pl.length = _
      rw [ih.len, e4]; rfl
end Go.Proofs.YtnkpopeahmjodaaGreat

/- Drop, as it turns two heaps. -/
namespace Go.Proofs.YtnkpopeahmjodaaGreat
open Go.ChangeShapes Go.WideShapes Go.ChangeAt Go.RowKit
open Tr

section
variable {s : St} {t u : Tr} {L M : List (Nat × Int × Int)}
theorem nodes_nodup {t : Tr} (h : t.cells.Nodup) : t.nodes.Nodup ∧ t.items.Nodup ∧ ∀ n ∈ t.nodes, n ∉ t.items := by
  have := (cells_perm t).nodup_iff.1 h
  rw [List.nodup_append] at this
  exact ⟨this.1, this.2.1, fun n hn q => this.2.2 n hn n q rfl⟩
theorem hp_six : ∀ {t : Tr}, Hp (LS s) (hasS s) t → ∀ n ∈ t.nodes, hasS s n 6 = (itS s n : Int) ∧ LS s (itS s n) = true ∧ itS s n ∈ t.items
  | lf, _, n, hn => by simp [nodes] at hn
  | nd m i l r, h, n, hn => by
    simp only [nodes, List.mem_cons, List.mem_append] at hn
    rcases hn with rfl | hn | hn
    · obtain ⟨⟨_, a2⟩, ⟨_, _, _, _, b5, _⟩, _⟩ := h
      have e : itS s n = i := by unfold itS; rw [b5]; simp
      rw [e]; exact ⟨b5, a2, by simp [items]⟩
    · obtain ⟨a, b, c⟩ := hp_six h.2.2.2.1 n hn
      exact ⟨a, b, by simp [items, c]⟩
    · obtain ⟨a, b, c⟩ := hp_six h.2.2.2.2 n hn
      exact ⟨a, b, by simp [items, c]⟩
/-- the nodes are given back -/
theorem dg_heap (h : Inv s t u L M) {D : List Nat} (hD : D.Perm t.nodes) (q : Nat) : Dg (itS s) D (tk s q) (dgS (tk s q) D) ∧ ∀ i ∈ t.items, LS (dgS (tk s q) D) i = true ∧ hasS (dgS (tk s q) D) i 9 = -1 := by
  obtain ⟨n1, n2, n3⟩ := nodes_nodup h.a.gd.nd
  have hp := h.a.gd.hp
  have hln : ∀ n ∈ D, LS s n = true := fun n hn => h.a.gd.live n (nodes_sub (hD.mem_iff.1 hn))
  have g := dg_view (itS s) D (tk s q) (Sm.tk h.ok q).ok (hD.nodup_iff.2 n1) (fun n hn => by
    obtain ⟨a, b, _⟩ := hp_six hp n (hD.mem_iff.1 hn)
    exact ⟨hln n hn, b, a⟩) (fun n hn m hm e => by
    obtain ⟨_, _, c⟩ := hp_six hp m (hD.mem_iff.1 hm)
    exact n3 n (hD.mem_iff.1 hn) (e ▸ c))
  refine ⟨g, fun i hi => ⟨?_, ?_⟩⟩
  · rw [g.ls i (fun z => n3 i (hD.mem_iff.1 z) hi)]
    exact h.a.gd.live i (items_sub hi)
  · rw [items_map hp] at hi
    obtain ⟨n, hn, e⟩ := List.mem_map.1 hi
    rw [← e]
    exact g.free n (hD.mem_iff.2 hn)
/-- and then the items -/
theorem drop_inv (h : Inv s t u L M) {D m : List Nat} (hD : D.Perm t.nodes) (hm : m.Perm t.items) (q : Nat) : Inv (giS (dgS (tk s q) D) m) lf u [] M := by
  obtain ⟨g, gi⟩ := dg_heap h hD q
  obtain ⟨n1, n2, n3⟩ := nodes_nodup h.a.gd.nd
  have v := gi_view m (dgS (tk s q) D) g.ok (hm.nodup_iff.2 n2) (fun i hi => (gi i (hm.mem_iff.1 hi)).1)
  have huc : ∀ c ∈ u.cells, c ∉ D ∧ c ∉ m ∧ ∀ n ∈ D, itS s n ≠ c := fun c hc => ⟨fun z => h.dj c (nodes_sub (hD.mem_iff.1 z)) hc, fun z => h.dj c (items_sub (hm.mem_iff.1 z)) hc, fun n hn e => by
    obtain ⟨_, _, z⟩ := hp_six h.a.gd.hp n (hD.mem_iff.1 hn)
    exact h.dj c (items_sub (e ▸ z)) hc⟩
  refine ⟨v.ok, Hh.nil _, h.b.keep fun c hc => ?_, fun c hc => by simp [Tr.cells] at hc, ?_⟩
  · obtain ⟨h1, h2, h3⟩ := huc c hc
    refine ⟨by rw [v.ls c h2, g.ls c h1]; rfl, fun j => by rw [v.rest, g.rest c j (Or.inr h3)]; rfl⟩
  · have c1 := v.ok.count
    have c2 := h.ok.count
    rw [v.num, v.len, g.num, g.len] at c1
    have e1 : (tk s q).back = s.back := rfl
    have e2 : (tk s q).pl = s.pl := rfl
    rw [e1, e2] at c1
    have c3 := h.num
    have c4 : D.length = L.length := by rw [hD.length_eq, size_nodes, h.a.len]
    have c5 : m.length = L.length := by rw [hm.length_eq, size_items, h.a.len]
    simp
    omega
end
end Go.Proofs.YtnkpopeahmjodaaGreat

/- node.Drop, Drop. -/
namespace Go.Proofs.YtnkpopeahmjodaaGreat
open Go.ChangeShapes Go.WideShapes Go.ChangeAt Go.RowKit
open Tr

set_option maxHeartbeats 2000000 in
theorem ndropT {F : Nat → Prop} {w : World} {pa pm base : Nat} {s : St} {v : Value} {D : List Nat} (h : IsA w F pa pm s) (hv : w.ownsRow base 3 1 v D.length (row nat1 D)) (hF : ∀ b, v.ownBlock = some b → ¬ F b) (hc : ∀ n ∈ D, cellS s (n : Int) 6 = (itS s n : Int)) (hz : D.length ≤ 1000) (hs : s.steps ≤ 80000000) :
    Calls Tryz.prog 42 #[.pointer (some ⟨pa, 0, none⟩), v] w fun e w' => ∃ v' m w1, e = .returned v' ∧ m.Perm (D.map (itS s)) ∧ m.Pairwise (fun a b => a ≤ b) ∧ Ex F w w1 pa pm (tk s D.length) ∧ w1.ownsRow w.heap.size 3 1 v' m.length (row nat1 m) ∧ Aft F w1 w' pa pm (dgS (tk s D.length) D) := by
  have I := hid (itemsT h hv hF hc hz (by omega))
  have HV := hid hv
  have HF := hid hF
  have FL := hid h.lt
  obtain ⟨va, vc, rfl⟩ := own_form hv
  clear h hv hF hc
  go_enter Tryz.func42, Tryz.ntmps42
  go_wp2_with fail
  refine I.out.mono ?_
  rintro e w1 ⟨v', m, rfl, o1, hp, hpw, e1⟩
  have O1 := hid o1
  have HP := hid hp
  have HPW := hid hpw
  have E1 := hid e1
  have V1 := hid (own_kept HV.out e1.kept (fun b hb => HF.out b hb))
  have A1 := hid (Aft.start e1.is)
  clear I o1 hp hpw e1 HV
  go_wp2_with fail
  go_loopw [7, 13] (fun _ iv wr => ∃ a : Nat, iv = .int .i64 a ∧ a ≤ D.length ∧ wr.ownsRow base 3 1 (.slice va D.length vc) D.length (row nat1 D) ∧ Aft F w1 wr pa pm (dgS (tk s D.length) (D.take a))) (fun _ i _ => D.length - (intOf i).toNat)
  case atStart => exact ⟨0, rfl, Nat.zero_le _, V1.out, A1.out⟩
  case round =>
    obtain ⟨a, rfl, ha, hv, hA⟩ := hrel
    clear A1
    have HVR := hid hv
    have HA := hid hA
    by_cases hlt : a < D.length
    · have hx : D[a]? = some D[a] := List.getElem?_eq_getElem hlt
      obtain ⟨g, cap, e, hg, _, hcell⟩ := own1_at hv nat1_len hx
      obtain rfl : va = some ⟨g, 0, none⟩ := by injection e
      have ET := hid (show D.take (a + 1) = D.take a ++ [D[a]] by rw [List.take_add_one, hx]; rfl)
      generalize D[a] = x at *
      replace hcell : wr.cell? ⟨g, a, none⟩ = some (.int .i64 (x : Int)) := hcell
      have hlt' : (a : Int) < (D.length : Int) := by omega
      have GB := hid (giveBackT (x : Int) hA (by rw [dg_steps]; show s.steps + D.length + 3 * _ ≤ _; have := List.length_take_le a D; omega))
      clear hx hv hA e
      go_wp2_with fail
      refine GB.out.mono ?_
      rintro e w4 ⟨rfl, h4⟩
      have H4 := hid h4
      clear h4 GB HA HVR
      go_wp2
      go_roundw
      case rel => exact ⟨a + 1, by go_num, by omega, own_kept V1.out H4.out.kept (fun b hb => HF.out b hb), by rw [ET.out, dg_append]; exact H4.out⟩
      case measure => simp [intOf]; omega
    · obtain rfl : a = D.length := by omega
      have hge : decide ((D.length : Int) < (D.length : Int)) = false := by simp
      obtain ⟨xa, xc, rfl⟩ := own_form O1.out
      clear hv hA HVR
      go_wp2
      go_ret
      exact ⟨_, m, w1, rfl, HP.out, HPW.out, E1.out, O1.out, by have := HA.out; rw [List.take_length] at this; exact this⟩

set_option maxHeartbeats 2000000 in
theorem dropT {F : Nat → Prop} {w : World} {pa pm : Nat} {s : St} {n i : Nat} {l r : Tr} (ok : Ok s) (g : Gd s (nd n i l r)) (h : IsA w F pa pm s) (hz : (nd n i l r).size ≤ 1000) (hs : s.steps ≤ 79000000) :
    Calls Tryz.prog 21 #[.pointer (some ⟨pa, 0, none⟩), .int .i64 (n : Int)] w fun e w' => ∃ v' m w1 D k, e = .returned v' ∧ D.Perm (nd n i l r).nodes ∧ m.Perm (nd n i l r).items ∧ m.Pairwise (fun a b => a ≤ b) ∧ k ≤ 3 + 5 * (nd n i l r).size ∧ Ex F w w1 pa pm (tk s k) ∧ w1.ownsRow w.heap.size 3 1 v' m.length (row nat1 m) ∧ Aft F w1 w' pa pm (dgS (tk s k) D) := by
  have N := hid (nodesT g h hz (by omega))
  have FL := hid h.lt
  have G := hid g
  have OK := hid ok
  have SZ := hid (size_nodes (nd n i l r))
  clear h g ok
  go_enter Tryz.func21, Tryz.ntmps21
  go_wp2_with fail
  refine N.out.mono ?_
  rintro e w1 ⟨v, D, k, rfl, o1, p1, hk, e1⟩
  have hD : D.length = (nd n i l r).size := by rw [p1.length_eq]; exact SZ.out
  have ND := hid (ndropT e1.is o1 (fun b hb q => by have := FL.out b q; have := (o1.lt b hb).1; omega) (fun m hm => (it_cell OK.out G.out.hp m (p1.mem_iff.1 hm) : cellS s (m : Int) 6 = (itS s m : Int))) (by omega) (by show s.steps + k ≤ _; omega))
  have E1 := hid e1
  have P1 := hid p1
  have HK := hid hk
  have HD := hid hD
  obtain ⟨va, vc, rfl⟩ := own_form o1
  clear N o1 p1 e1 hk hD
  go_wp2_with fail
  refine ND.out.mono ?_
  rintro e w2 ⟨v', m, w3, rfl, hp, hpw, e3, o3, a3⟩
  have E3 := hid e3
  have O3 := hid o3
  have A3 := hid a3
  have PP := hid (show m.Perm (nd n i l r).items by rw [items_map G.out.hp]; exact List.Perm.trans (show m.Perm (D.map (itS s)) from hp) (P1.out.map _))
  have HPW := hid hpw
  obtain ⟨xa, xc, rfl⟩ := own_form o3
  clear hp hpw e3 o3 a3 ND
  go_wp2
  go_ret
  refine ⟨_, m, w3, D, k + D.length, rfl, P1.out, PP.out, HPW.out, by have := HK.out; have := HD.out; omega, ?_, own_base O3.out E1.out.kept.size, ?_⟩
  · rw [← tk_tk]; exact E1.out.stay E3.out.is E3.out.kept
  · rw [← tk_tk]; exact A3.out
end Go.Proofs.YtnkpopeahmjodaaGreat

/- Drop of nothing; the laws' drop of a heap of nothing. -/
namespace Go.Proofs.YtnkpopeahmjodaaGreat
open Go.ChangeShapes Go.WideShapes Go.ChangeAt Go.RowKit
open Tr

theorem own_lower {w : World} {base base' : Nat} {e : TypeId} {size : Nat} {v : Value} {n : Nat} {xs : List Value} (h : w.ownsRow base e size v n xs) (hb : base' ≤ base) : w.ownsRow base' e size v n xs :=
  ⟨h.1, h.2.imp id fun ⟨g, cap, cur, e1, e2, e3⟩ => ⟨g, cap, cur, e1, Nat.le_trans hb e2, e3⟩⟩
set_option maxHeartbeats 1000000 in
theorem ndropT_none {F : Nat → Prop} {w : World} {pa pm : Nat} {s : St} (h : IsA w F pa pm s) (hs : s.steps ≤ 90000000) :
    Calls Tryz.prog 42 #[.pointer (some ⟨pa, 0, none⟩), .slice none 0 0] w fun e w' => ∃ v', e = .returned v' ∧ w'.ownsRow w.heap.size 3 1 v' 0 [] ∧ Ex F w w' pa pm s := by
  have I := hid (itemsT (L := []) (base := 0) h (World.ownsRow_nil _ _ _ _) (fun b hb => by cases hb) (fun n hn => by cases hn) (by simp) hs)
  clear h
  go_enter Tryz.func42, Tryz.ntmps42
  go_wp2_with fail
  refine I.out.mono ?_
  rintro e w1 ⟨v', m, rfl, o1, hp, _, e1⟩
  obtain rfl : m = [] := by have := hp.length_eq; simp at this; exact this
  have O1 := hid o1
  have E1 := hid e1
  obtain ⟨va, vc, rfl⟩ := own_form o1
  clear I o1 hp e1
  go_wp2_with fail
  go_loopw [7, 13] (fun _ iv wr => iv = .int .i64 0 ∧ wr = w1) (fun _ _ _ => 0)
  case atStart => exact ⟨rfl, rfl⟩
  case round =>
    obtain ⟨rfl, rfl⟩ := hrel
    go_wp2
    go_ret
    exact ⟨_, rfl, O1.out, E1.out⟩
set_option maxHeartbeats 1000000 in
theorem dropT_none {F : Nat → Prop} {w : World} {pa pm : Nat} {s : St} (h : IsA w F pa pm s) (hs : s.steps ≤ 80000000) :
    Calls Tryz.prog 21 #[.pointer (some ⟨pa, 0, none⟩), .int .i64 (-1)] w fun e w' => ∃ v', e = .returned v' ∧ w'.ownsRow w.heap.size 3 1 v' 0 [] ∧ ∃ k, k ≤ 3 ∧ Ex F w w' pa pm (tk s k) := by
  have N := hid (nodesT_none (Ex.start h) (by omega))
  clear h
  go_enter Tryz.func21, Tryz.ntmps21
  go_wp2_with fail
  refine N.out.mono ?_
  rintro e w1 ⟨rfl, k, hk, e1⟩
  have E1 := hid e1
  clear N e1
  go_wp2_with fail
  refine (ndropT_none E1.out.is (by show s.steps + k ≤ _; omega)).mono ?_
  rintro e w2 ⟨v', rfl, o2, e2⟩
  have O2 := hid o2
  have E2 := hid e2
  obtain ⟨va, vc, rfl⟩ := own_form o2
  clear o2 e2
  go_wp2
  go_ret
  exact ⟨_, rfl, own_lower O2.out E1.out.kept.size, k, hk, E1.out.stay E2.out.is E2.out.kept⟩

set_option maxHeartbeats 2000000 in
set_option maxRecDepth 100000 in
theorem drop0_none {w0 : Fm} {w : World} {pw N K : Nat} {L : List (Nat × Int × Int)} {nx : Int} (h : Sit w0 w pw N K [] L nx) (hK : K ≤ 70000000) :
    Calls Tryz.prog 11 #[.pointer (some ⟨pw, 0, none⟩), .int .i64 0] w fun e w' => e = .returned (.bool true) ∧ Sit w0 w' pw N (K + 10) [] L nx := by
  have hr := h.none0
  obtain ⟨F, pa, pm, v0, v1, s, t, u, sp, mo, hw, hi, hk, hm⟩ := h
  have HW := hid hw
  have HI := hid hi
  have HK := hid hk
  have HM := hid hm
  have hroot : Tr.root t = -1 := by
    have := hi.a.len
    cases t with
    | lf => rfl
    | nd n i l r => simp [size] at this
  have HR := hid hroot
  have D := hid (fun w1 (k1 : Kept (fun _ => False) w w1) => dropT_none (hw.plain k1).is (by omega))
  obtain ⟨c0, c1, c2, c3, c4, c5, c6, c7, cf⟩ := hw.cells
  have hlt := hw.lt
  have hout := hid hw.out
  clear hw hi hk hm hroot c1 c2 c3 c4 c5 c6 c7 cf
  go_enter Tryz.func11, Tryz.ntmps11
  go_wp2_with fail
  go_region_held3 (fun w' => w'.cell? ⟨pw, 0, none⟩ = some (.pointer (some ⟨pa, 0, none⟩)) ∧ w'.cell? ⟨pw, 1, none⟩ = some (.int .i64 (-1))) (first | exact ⟨c0, hr⟩ | (simp [go_sem]; exact ⟨c0, hr⟩))
    (first
      | (go_at_call 21; refine (D.out _ (by first | exact Kept.refl _ _ | exact (Kept.refl _ _).drew | exact (Kept.refl _ _).drewN _)).mono ?_; rintro e w3 ⟨v', rfl, o3, k, hk, e3⟩; replace c0 := (e3.kept.cell (p := ⟨pw, 0, none⟩) hlt hout.out).trans c0; replace hr := (e3.kept.cell (p := ⟨pw, 1, none⟩) hlt hout.out).trans hr; have E3 := hid e3; have O3 := hid (own_lower o3 (Nat.zero_le _)); obtain ⟨va, vc, rfl⟩ := own_form o3; clear e3 o3))
  have W3 := hid (HW.out.plain ((Kept.refl _ _).drewN 1) |>.ex E3.out)
  clear c0 hr hlt hout HW D E3
  obtain ⟨c0, c1, c2, c3, c4, c5, c6, c7, cf⟩ := W3.out.cells
  obtain ⟨xa, xc, hx⟩ := W3.out.l0.form
  have CE := hid (cellsH _ _ w3 W3.out.l0 (by simp))
  have hlt3 := W3.out.lt
  subst hx
  clear c0 c1 c2 c5 c6 c7 cf
  go_wp2_with fail
  refine CE.out.mono ?_
  rintro e w4 ⟨v4, m, rfl, o4, hp, _, k4⟩
  obtain rfl : m = [] := by have := hp.length_eq; simp at this; exact this
  have SM := hid (sameN (.slice va 0 vc) v4 [] [] rfl (by simp) w4 (own_kept O3.out k4 (fun _ _ e => e)) (own_base o4 (Nat.zero_le _)))
  have W4 := hid (W3.out.plain k4)
  obtain ⟨vb, vd, rfl⟩ := own_form o4
  clear CE o4 hp k4 W3 c3 c4 hlt3 O3
  go_wp2_with fail
  refine SM.out.mono ?_
  rintro e w5 ⟨rfl, nn, rfl⟩
  have W5 := hid (W4.out.drewN nn)
  clear SM W4
  generalize w4.drewN nn = w5 at *
  go_wp2_with fail
  go_loopw [6] (fun iv wr => iv = .int .i64 0 ∧ wr = w5) (fun _ _ => 0)
  case atStart => exact ⟨rfl, rfl⟩
  case round =>
    obtain ⟨rfl, rfl⟩ := hrel
    obtain ⟨c0, c1, c2, c3, c4, c5, c6, c7, cf⟩ := W5.out.cells
    have hlt5 := W5.out.lt
    have fR := cf 1
    have fV := cf 3
    clear c0 c5 c6 c7 cf
    go_wp2_with fail
    go_region
    go_wp2
    go_ret
    have kk := ((kept_pw wr pw 1 (.int .i64 (-1))).trans' (kept_pw _ pw 3 (.slice none 0 0))).drew
    have W6 := W5.out.wrote (r0' := Tr.root t) (v0' := .slice none 0 0) (L0' := []) kk (by have b1 := blk_set (j := 3) (u := .slice none 0 0) (blk_set (j := 1) (u := .int .i64 (-1)) W5.out.blk); simp at b1; rw [show Tr.root t = -1 from HR.out]; exact b1) (Lz.nil _ _) (W5.out.l1.kept kk fun _ q => q.2)
    exact ⟨rfl, F, pa, pm, _, _, tk s k, t, u, sp, mo, W6, HI.out.tk k, by show s.steps + k ≤ _; have := HK.out; omega, HM.out⟩

set_option maxHeartbeats 2000000 in
set_option maxRecDepth 100000 in
theorem drop1_none {w0 : Fm} {w : World} {pw N K : Nat} {L : List (Nat × Int × Int)} {nx : Int} (h : Sit w0 w pw N K L [] nx) (hK : K ≤ 70000000) :
    Calls Tryz.prog 11 #[.pointer (some ⟨pw, 0, none⟩), .int .i64 1] w fun e w' => e = .returned (.bool true) ∧ Sit w0 w' pw N (K + 10) L [] nx := by
  have hr := h.none1
  obtain ⟨F, pa, pm, v0, v1, s, t, u, sp, mo, hw, hi, hk, hm⟩ := h
  have HW := hid hw
  have HI := hid hi
  have HK := hid hk
  have HM := hid hm
  have hroot : Tr.root u = -1 := by
    have := hi.b.len
    cases u with
    | lf => rfl
    | nd n i l r => simp [size] at this
  have HR := hid hroot
  have D := hid (fun w1 (k1 : Kept (fun _ => False) w w1) => dropT_none (hw.plain k1).is (by omega))
  obtain ⟨c0, c1, c2, c3, c4, c5, c6, c7, cf⟩ := hw.cells
  have hlt := hw.lt
  have hout := hid hw.out
  clear hw hi hk hm hroot c1 c2 c3 c4 c5 c6 c7 cf
  go_enter Tryz.func11, Tryz.ntmps11
  go_wp2_with fail
  go_region_held3 (fun w' => w'.cell? ⟨pw, 0, none⟩ = some (.pointer (some ⟨pa, 0, none⟩)) ∧ w'.cell? ⟨pw, 2, none⟩ = some (.int .i64 (-1))) (first | exact ⟨c0, hr⟩ | (simp [go_sem]; exact ⟨c0, hr⟩))
    (first
      | (go_at_call 21; refine (D.out _ (by first | exact Kept.refl _ _ | exact (Kept.refl _ _).drew | exact (Kept.refl _ _).drewN _)).mono ?_; rintro e w3 ⟨v', rfl, o3, k, hk, e3⟩; replace c0 := (e3.kept.cell (p := ⟨pw, 0, none⟩) hlt hout.out).trans c0; replace hr := (e3.kept.cell (p := ⟨pw, 2, none⟩) hlt hout.out).trans hr; have E3 := hid e3; have O3 := hid (own_lower o3 (Nat.zero_le _)); obtain ⟨va, vc, rfl⟩ := own_form o3; clear e3 o3))
  have W3 := hid (HW.out.plain ((Kept.refl _ _).drewN 1) |>.ex E3.out)
  clear c0 hr hlt hout HW D E3
  obtain ⟨c0, c1, c2, c3, c4, c5, c6, c7, cf⟩ := W3.out.cells
  obtain ⟨xa, xc, hx⟩ := W3.out.l1.form
  have CE := hid (cellsH _ _ w3 W3.out.l1 (by simp))
  have hlt3 := W3.out.lt
  subst hx
  clear c0 c1 c2 c5 c6 c7 cf
  go_wp2_with fail
  refine CE.out.mono ?_
  rintro e w4 ⟨v4, m, rfl, o4, hp, _, k4⟩
  obtain rfl : m = [] := by have := hp.length_eq; simp at this; exact this
  have SM := hid (sameN (.slice va 0 vc) v4 [] [] rfl (by simp) w4 (own_kept O3.out k4 (fun _ _ e => e)) (own_base o4 (Nat.zero_le _)))
  have W4 := hid (W3.out.plain k4)
  obtain ⟨vb, vd, rfl⟩ := own_form o4
  clear CE o4 hp k4 W3 c3 c4 hlt3 O3
  go_wp2_with fail
  refine SM.out.mono ?_
  rintro e w5 ⟨rfl, nn, rfl⟩
  have W5 := hid (W4.out.drewN nn)
  clear SM W4
  generalize w4.drewN nn = w5 at *
  go_wp2_with fail
  go_loopw [6] (fun iv wr => iv = .int .i64 0 ∧ wr = w5) (fun _ _ => 0)
  case atStart => exact ⟨rfl, rfl⟩
  case round =>
    obtain ⟨rfl, rfl⟩ := hrel
    obtain ⟨c0, c1, c2, c3, c4, c5, c6, c7, cf⟩ := W5.out.cells
    have hlt5 := W5.out.lt
    have fR := cf 2
    have fV := cf 4
    clear c0 c5 c6 c7 cf
    go_wp2_with fail
    go_region
    go_wp2
    go_ret
    have kk := ((kept_pw wr pw 2 (.int .i64 (-1))).trans' (kept_pw _ pw 4 (.slice none 0 0))).drew
    have W6 := W5.out.wrote (r1' := Tr.root u) (v1' := .slice none 0 0) (L1' := []) kk (by have b1 := blk_set (j := 4) (u := .slice none 0 0) (blk_set (j := 2) (u := .int .i64 (-1)) W5.out.blk); simp at b1; rw [show Tr.root u = -1 from HR.out]; exact b1) (W5.out.l0.kept kk fun _ q => q.2) (Lz.nil _ _)
    exact ⟨rfl, F, pa, pm, _, _, tk s k, t, u, sp, mo, W6, HI.out.tk k, by show s.steps + k ≤ _; have := HK.out; omega, HM.out⟩
end Go.Proofs.YtnkpopeahmjodaaGreat

/- The laws' drop. -/
namespace Go.Proofs.YtnkpopeahmjodaaGreat
open Go.ChangeShapes Go.WideShapes Go.ChangeAt Go.RowKit
open Tr

set_option maxHeartbeats 4000000 in
set_option maxRecDepth 100000 in
theorem drop0_some {w0 : Fm} {w : World} {pw N K : Nat} {L0 L1 : List (Nat × Int × Int)} {nx : Int} (h : Sit w0 w pw N K L0 L1 nx) (h0 : L0 ≠ []) (hl : L0.length ≤ 700) (hK : K ≤ 70000000) :
    Calls Tryz.prog 11 #[.pointer (some ⟨pw, 0, none⟩), .int .i64 0] w fun e w' => e = .returned (.bool true) ∧ Sit w0 w' pw N (K + 10000) [] L1 nx := by
  obtain ⟨F, pa, pm, v0, v1, s, t, u, sp, mo, hw, hi, hk, hm⟩ := h
  obtain ⟨n, i, l, r, ht⟩ : ∃ n i l r, t = nd n i l r := by
    have := hi.a.len
    cases ht : t with
    | lf => rw [ht] at this; simp [size] at this; exact absurd (List.eq_nil_of_length_eq_zero this.symm) h0
    | nd n i l r => exact ⟨n, i, l, r, rfl⟩
  subst ht
  have hsz := hi.a.len
  have HI := hid hi
  have HW := hid hw
  have HK := hid hk
  have HM := hid hm
  have HSZ := hid hsz
  have PM := hid hi.a.pm
  have D := hid (fun w1 (k1 : Kept (fun _ => False) w w1) => dropT hi.ok hi.a.gd (hw.plain k1).is (by omega) (by omega))
  obtain ⟨c0, c1, c2, c3, c4, c5, c6, c7, cf⟩ := hw.cells
  replace c1 : w.cell? ⟨pw, 1, none⟩ = some (.int .i64 (n : Int)) := c1
  have hlt := hw.lt
  have hout := hid hw.out
  have FL := hid hw.is.lt
  have hll : L0.length ≤ 700 := by omega
  clear hw hi hk hm hsz c3 c4 c5 c6 c7 cf h0 hl
  go_enter Tryz.func11, Tryz.ntmps11
  go_wp2_with fail
  go_region_held3 (fun w' => w'.cell? ⟨pw, 0, none⟩ = some (.pointer (some ⟨pa, 0, none⟩)) ∧ w'.cell? ⟨pw, 1, none⟩ = some (.int .i64 (n : Int))) (first | exact ⟨c0, c1⟩ | (simp [go_sem]; exact ⟨c0, c1⟩))
    (first
      | (go_at_call 21; refine (D.out _ (by first | exact Kept.refl _ _ | exact (Kept.refl _ _).drew | exact (Kept.refl _ _).drewN _)).mono ?_; rintro e w3 ⟨v', m, w2, Dn, k, rfl, pD, pI, pS, hk, eX, oX, aX⟩; replace c0 := ((aX.kept.cell (p := ⟨pw, 0, none⟩) (Nat.lt_of_lt_of_le hlt eX.kept.size) hout.out).trans (eX.kept.cell (p := ⟨pw, 0, none⟩) hlt hout.out)).trans c0; replace c1 := ((aX.kept.cell (p := ⟨pw, 1, none⟩) (Nat.lt_of_lt_of_le hlt eX.kept.size) hout.out).trans (eX.kept.cell (p := ⟨pw, 1, none⟩) hlt hout.out)).trans c1; have EX := hid eX; have AX := hid aX; have OX := hid oX; have PD := hid pD; have PI := hid pI; have PS := hid pS; have HKK := hid hk; obtain ⟨va, vc, rfl⟩ := own_form oX; clear eX aX oX pD pI pS hk))
  have W2 := hid ((HW.out.plain ((Kept.refl _ _).drewN 1)).ex EX.out)
  have W3 := hid (W2.out.aft AX.out)
  have vF := hid (show ∀ b, (Value.slice va m.length vc).ownBlock = some b → ¬ Grow F w2 w3 b from fun b hb q => by
    have h1 := OX.out.lt b hb
    rcases q with q | q
    · have := FL.out b q; have h2 : w.heap.size ≤ b := h1.1; omega
    · omega)
  have V3 := hid (own_kept OX.out AX.out.kept (fun b hb q => vF.out b hb (Or.inl q)))
  have ST := hid (show (dgS (tk s k) Dn).steps ≤ s.steps + 6000 by
    rw [dg_steps]; show s.steps + k + 3 * Dn.length ≤ _
    have h1 : Dn.length = (nd n i l r).size := by rw [PD.out.length_eq, size_nodes]
    have h2 := HKK.out
    have h3 := HSZ.out
    omega)
  have DI := hid (fun (z : Nat) => drop_inv (HI.out) PD.out PI.out k)
  have DG := hid (dg_heap (HI.out) PD.out k).2
  have MO := hid (show (dgS (tk s k) Dn).most = N by rw [dg_most]; exact HM.out)
  have ml := hid (show m.length = L0.length by rw [PI.out.length_eq, size_items]; exact HSZ.out)
  have GK := hid (dg_heap (HI.out) PD.out k).1.ok
  clear c0 c1 c2 hlt hout HW W2 EX AX OX D
  generalize Grow F w2 w3 = G at *
  generalize hS1 : dgS (tk s k) Dn = s1 at *
  clear hS1
  obtain ⟨xa, xc, hx⟩ := W3.out.l0.form
  have CE := hid (cellsH _ _ w3 W3.out.l0 (by omega))
  obtain ⟨c0, c1, c2, c3, c4, c5, c6, c7, cf⟩ := W3.out.cells
  have hlt3 := W3.out.lt
  subst hx
  clear c0 c1 c2 c5 c6 c7 cf
  go_wp2_with fail
  refine CE.out.mono ?_
  rintro e w4 ⟨v4, m2, rfl, o4, hp, hpw, k4⟩
  have hmm : m = m2 := sort_uniq (PI.out.trans (PM.out.symm.trans hp.symm)) PS.out hpw
  have V4 := hid (own_kept V3.out k4 (fun _ _ e => e))
  have SM := hid (sameN (.slice va m.length vc) v4 m m2 hmm (by have := ml.out; omega) w4 (own_base V4.out (Nat.zero_le _)) (own_base o4 (Nat.zero_le _)))
  have W4 := hid (W3.out.plain k4)
  obtain ⟨vb, vd, rfl⟩ := own_form o4
  clear CE o4 hp hpw k4 W3 c3 c4 hlt3 V3 hmm
  go_wp2_with fail
  refine SM.out.mono ?_
  rintro e w5 ⟨rfl, nn, rfl⟩
  have W5 := hid (W4.out.drewN nn)
  have V5 := hid (own_kept V4.out ((Kept.refl (fun _ => False) _).drewN nn) (fun _ _ e => e))
  clear SM W4 V4
  generalize w4.drewN nn = w5 at *
  have hnd := hid (show m.Nodup from PI.out.nodup_iff.2 (nodes_nodup HI.out.a.gd.nd).2.1)
  go_wp2_with fail
  go_loopw [6] (fun iv wr => ∃ (a : Nat) (G' : Nat → Prop), iv = .int .i64 a ∧ a ≤ m.length ∧ wr.ownsRow w.heap.size 3 1 (.slice va m.length vc) m.length (row nat1 m) ∧ (∀ b, (Value.slice va m.length vc).ownBlock = some b → ¬ G' b) ∧ Wx w0 wr G' pw pa pm (.slice xa L0.length xc) v1 (giS s1 (m.take a)) (Tr.root (nd n i l r)) (Tr.root u) L0 L1 nx sp mo) (fun i _ => m.length - (intOf i).toNat)
  case atStart => exact ⟨0, G, rfl, Nat.zero_le _, V5.out, vF.out, W5.out⟩
  case round =>
    clear W5 V5 vF
    obtain ⟨a, G', rfl, ha, hv, hg', hW⟩ := hrel
    have HV := hid hv
    have HG := hid hg'
    have HWR := hid hW
    by_cases hlt : a < m.length
    · have hx : m[a]? = some m[a] := List.getElem?_eq_getElem hlt
      obtain ⟨g, cap, e, hgs, _, hcell⟩ := own1_at hv nat1_len hx
      obtain rfl : va = some ⟨g, 0, none⟩ := by injection e
      have gG : ¬ G' g := hg' g rfl
      have ET := hid (show m.take (a + 1) = m.take a ++ [m[a]] by rw [List.take_add_one, hx]; rfl)
      have hxm : m[a] ∈ m := List.getElem_mem hlt
      have hnt : m[a] ∉ m.take a := fun z => by
        have hn := hnd.out
        rw [← List.take_append_drop a m, List.nodup_append] at hn
        exact hn.2.2 _ z _ (by have e9 := List.drop_eq_getElem_cons hlt; rw [e9]; exact List.mem_cons.2 (Or.inl rfl)) rfl
      have vw := gi_view (m.take a) s1 GK.out ((List.take_sublist a m).nodup hnd.out) (fun i hi => (DG.out i (PI.out.mem_iff.1 (List.mem_of_mem_take hi))).1)
      have lx : LS (giS s1 (m.take a)) m[a] = true := by rw [vw.ls _ hnt]; exact (DG.out _ (PI.out.mem_iff.1 hxm)).1
      have h9 : hasS (giS s1 (m.take a)) m[a] 9 = -1 := by rw [vw.rest]; exact (DG.out _ (PI.out.mem_iff.1 hxm)).2
      have sa : (giS s1 (m.take a)).steps ≤ s.steps + 6000 + 1400 := by
        rw [gi_steps]
        have h1 := ST.out
        have h2 := List.length_take_le a m
        have h3 := ml.out
        omega
      generalize m[a] = x at *
      generalize hsA : giS s1 (m.take a) = sA at *
      have HSA := hid hsA
      have HLT := hid hlt
      clear hsA
      have ND := hid (fun w1 (k1 : Kept (fun _ => False) wr w1) => (nodeT (x : Int) (Ex.start (hW.plain k1).is) (by have := HK.out; omega)).mono fun e w' h => (show e = .returned (.int .i64 (-1)) ∧ Kept G' w1 w' ∧ Wx w0 w' G' pw pa pm (.slice xa L0.length xc) v1 (tk sA 1) (Tr.root (nd n i l r)) (Tr.root u) L0 L1 nx sp mo from ⟨by rw [h.1, show cellS sA (x : Int) 9 = -1 from cell_neg (j := 9) lx (by decide) h9], h.2.kept, (hW.plain k1).ex h.2⟩))
      have GV := hid (fun w1 w2 (W : Wx w0 w1 G' pw pa pm (.slice xa L0.length xc) v1 (tk sA 1) (Tr.root (nd n i l r)) (Tr.root u) L0 L1 nx sp mo) (k1 : Kept (fun _ => False) w1 w2) => (giveT (x : Int) (Aft.start (W.plain k1).is) (by show sA.steps + 1 ≤ _; have := HK.out; omega)).mono fun e w' h => (show e = .returned (.bool true) ∧ Kept G' w2 w' ∧ Wx w0 w' (Grow G' w2 w') pw pa pm (.slice xa L0.length xc) v1 (giveS (tk sA 1) (x : Int)) (Tr.root (nd n i l r)) (Tr.root u) L0 L1 nx sp mo from ⟨by rw [h.1, show liveS (tk sA 1) (x : Int) = true from lx], h.2.kept, (W.plain k1).aft h.2⟩))
      obtain ⟨c0, _⟩ := hW.cells
      have hltp := hW.lt
      have pG := hid hW.out
      have gG2 := hid gG
      replace hcell : wr.cell? ⟨g, a, none⟩ = some (.int .i64 (x : Int)) := hcell
      have hlt' : (a : Int) < (m.length : Int) := by omega
      have hm7 : m.length ≤ 700 := by have := ml.out; omega
      clear hx e hv hg' hW gG hxm hnt vw lx h9 sa
      go_wp2_with fail
      go_region_held3 (fun w' => w'.cell? ⟨pw, 0, none⟩ = some (.pointer (some ⟨pa, 0, none⟩)) ∧ w'.cell? ⟨g, a, none⟩ = some (.int .i64 (x : Int))) (first | exact ⟨c0, hcell⟩ | (simp [go_sem]; exact ⟨c0, hcell⟩))
        (first
          | (go_at_call 24; refine (ND.out _ (by first | exact Kept.refl _ _ | exact (Kept.refl _ _).drew | exact (Kept.refl _ _).drewN _)).mono ?_; rintro e w6 ⟨rfl, k6, W6x⟩; replace c0 := (k6.cell (p := ⟨pw, 0, none⟩) hltp pG.out).trans c0; replace hcell := (k6.cell (p := ⟨g, a, none⟩) hgs gG2.out).trans hcell; have K6 := hid k6; have W6 := hid W6x; have hltp6 := Nat.lt_of_lt_of_le hltp k6.size; have hgs6 := Nat.lt_of_lt_of_le hgs k6.size; clear k6 W6x)
          | (go_at_call 25; refine (GV.out _ _ W6.out (by first | exact Kept.refl _ _ | exact (Kept.refl _ _).drew | exact (Kept.refl _ _).drewN _)).mono ?_; rintro e w7 ⟨rfl, k7, W7x⟩; replace c0 := (k7.cell (p := ⟨pw, 0, none⟩) hltp6 pG.out).trans c0; replace hcell := (k7.cell (p := ⟨g, a, none⟩) hgs6 gG2.out).trans hcell; have K7 := hid k7; have W7 := hid W7x; clear k7 W7x))
      have V7 := hid (own_kept (own_kept (World.ownsRow.drew HV.out) K6.out (fun b hb => HG.out b hb)) K7.out (fun b hb => HG.out b hb))
      have NG := hid (show ∀ b, (Value.slice (some ⟨g, 0, none⟩) m.length vc).ownBlock = some b → ¬ Grow G' _ w7 b from fun b hb q => by
        have hbg : g = b := by simpa [Value.ownBlock] using hb
        rcases q with q | q
        · exact HG.out b hb q
        · have h1 := q.1; rw [← hbg] at h1; exact absurd h1 (Nat.not_le.2 hgs6))
      clear c0 hcell hltp hgs hltp6 hgs6 ND GV W6 K6 K7
      go_wp2
      go_roundw
      case rel => exact ⟨a + 1, _, by go_num, HLT.out, V7.out, NG.out, by rw [ET.out, gi_append, HSA.out]; exact W7.out⟩
      case measure => have := HLT.out; simp [intOf]; omega
    · obtain rfl : a = m.length := by omega
      have hge : decide ((m.length : Int) < (m.length : Int)) = false := by simp
      rw [List.take_length] at hW
      obtain ⟨c0, c1, c2, c3, c4, c5, c6, c7, cf⟩ := hW.cells
      have hlt9 := hW.lt
      have fR := cf 1
      have fV := cf 3
      have W9 := hid hW
      clear c0 c5 c6 c7 cf hv hg' HV HG HWR hW
      go_wp2_with fail
      go_region
      go_wp2
      go_ret
      have kk := ((kept_pw wr pw 1 (.int .i64 (-1))).trans' (kept_pw _ pw 3 (.slice none 0 0))).drew
      have Wz := W9.out.wrote (r0' := Tr.root lf) (v0' := .slice none 0 0) (L0' := []) kk (by have b1 := blk_set (j := 3) (u := .slice none 0 0) (blk_set (j := 1) (u := .int .i64 (-1)) W9.out.blk); simp at b1; exact b1) (Lz.nil _ _) (W9.out.l1.kept kk fun _ q => q.2)
      exact ⟨rfl, G', pa, pm, _, _, giS s1 m, lf, u, sp, mo, Wz, (DI.out 0), by rw [gi_steps]; have h1 := ST.out; have h2 := ml.out; have h3 := HK.out; omega, by rw [gi_most]; exact MO.out⟩

set_option maxHeartbeats 4000000 in
set_option maxRecDepth 100000 in
theorem drop1_some {w0 : Fm} {w : World} {pw N K : Nat} {L0 L1 : List (Nat × Int × Int)} {nx : Int} (h : Sit w0 w pw N K L0 L1 nx) (h0 : L1 ≠ []) (hl : L1.length ≤ 700) (hK : K ≤ 70000000) :
    Calls Tryz.prog 11 #[.pointer (some ⟨pw, 0, none⟩), .int .i64 1] w fun e w' => e = .returned (.bool true) ∧ Sit w0 w' pw N (K + 10000) L0 [] nx := by
  obtain ⟨F, pa, pm, v0, v1, s, t, u, sp, mo, hw, hi, hk, hm⟩ := h
  obtain ⟨n, i, l, r, ht⟩ : ∃ n i l r, u = nd n i l r := by
    have := hi.b.len
    cases ht : u with
    | lf => rw [ht] at this; simp [size] at this; exact absurd (List.eq_nil_of_length_eq_zero this.symm) h0
    | nd n i l r => exact ⟨n, i, l, r, rfl⟩
  subst ht
  have hsz := hi.b.len
  have HI := hid hi
  have HW := hid hw
  have HK := hid hk
  have HM := hid hm
  have HSZ := hid hsz
  have PM := hid hi.b.pm
  have D := hid (fun w1 (k1 : Kept (fun _ => False) w w1) => dropT hi.ok hi.b.gd (hw.plain k1).is (by omega) (by omega))
  obtain ⟨c0, c1, c2, c3, c4, c5, c6, c7, cf⟩ := hw.cells
  replace c2 : w.cell? ⟨pw, 2, none⟩ = some (.int .i64 (n : Int)) := c2
  have hlt := hw.lt
  have hout := hid hw.out
  have FL := hid hw.is.lt
  have hll : L1.length ≤ 700 := by omega
  clear hw hi hk hm hsz c3 c4 c5 c6 c7 cf h0 hl
  go_enter Tryz.func11, Tryz.ntmps11
  go_wp2_with fail
  go_region_held3 (fun w' => w'.cell? ⟨pw, 0, none⟩ = some (.pointer (some ⟨pa, 0, none⟩)) ∧ w'.cell? ⟨pw, 2, none⟩ = some (.int .i64 (n : Int))) (first | exact ⟨c0, c2⟩ | (simp [go_sem]; exact ⟨c0, c2⟩))
    (first
      | (go_at_call 21; refine (D.out _ (by first | exact Kept.refl _ _ | exact (Kept.refl _ _).drew | exact (Kept.refl _ _).drewN _)).mono ?_; rintro e w3 ⟨v', m, w2, Dn, k, rfl, pD, pI, pS, hk, eX, oX, aX⟩; replace c0 := ((aX.kept.cell (p := ⟨pw, 0, none⟩) (Nat.lt_of_lt_of_le hlt eX.kept.size) hout.out).trans (eX.kept.cell (p := ⟨pw, 0, none⟩) hlt hout.out)).trans c0; replace c2 := ((aX.kept.cell (p := ⟨pw, 2, none⟩) (Nat.lt_of_lt_of_le hlt eX.kept.size) hout.out).trans (eX.kept.cell (p := ⟨pw, 2, none⟩) hlt hout.out)).trans c2; have EX := hid eX; have AX := hid aX; have OX := hid oX; have PD := hid pD; have PI := hid pI; have PS := hid pS; have HKK := hid hk; obtain ⟨va, vc, rfl⟩ := own_form oX; clear eX aX oX pD pI pS hk))
  have W2 := hid ((HW.out.plain ((Kept.refl _ _).drewN 1)).ex EX.out)
  have W3 := hid (W2.out.aft AX.out)
  have vF := hid (show ∀ b, (Value.slice va m.length vc).ownBlock = some b → ¬ Grow F w2 w3 b from fun b hb q => by
    have h1 := OX.out.lt b hb
    rcases q with q | q
    · have := FL.out b q; have h2 : w.heap.size ≤ b := h1.1; omega
    · omega)
  have V3 := hid (own_kept OX.out AX.out.kept (fun b hb q => vF.out b hb (Or.inl q)))
  have ST := hid (show (dgS (tk s k) Dn).steps ≤ s.steps + 6000 by
    rw [dg_steps]; show s.steps + k + 3 * Dn.length ≤ _
    have h1 : Dn.length = (nd n i l r).size := by rw [PD.out.length_eq, size_nodes]
    have h2 := HKK.out
    have h3 := HSZ.out
    omega)
  have DI := hid (fun (z : Nat) => drop_inv (HI.out.swap) PD.out PI.out k)
  have DG := hid (dg_heap (HI.out.swap) PD.out k).2
  have MO := hid (show (dgS (tk s k) Dn).most = N by rw [dg_most]; exact HM.out)
  have ml := hid (show m.length = L1.length by rw [PI.out.length_eq, size_items]; exact HSZ.out)
  have GK := hid (dg_heap (HI.out.swap) PD.out k).1.ok
  clear c0 c1 c2 hlt hout HW W2 EX AX OX D
  generalize Grow F w2 w3 = G at *
  generalize hS1 : dgS (tk s k) Dn = s1 at *
  clear hS1
  obtain ⟨xa, xc, hx⟩ := W3.out.l1.form
  have CE := hid (cellsH _ _ w3 W3.out.l1 (by omega))
  obtain ⟨c0, c1, c2, c3, c4, c5, c6, c7, cf⟩ := W3.out.cells
  have hlt3 := W3.out.lt
  subst hx
  clear c0 c1 c2 c5 c6 c7 cf
  go_wp2_with fail
  refine CE.out.mono ?_
  rintro e w4 ⟨v4, m2, rfl, o4, hp, hpw, k4⟩
  have hmm : m = m2 := sort_uniq (PI.out.trans (PM.out.symm.trans hp.symm)) PS.out hpw
  have V4 := hid (own_kept V3.out k4 (fun _ _ e => e))
  have SM := hid (sameN (.slice va m.length vc) v4 m m2 hmm (by have := ml.out; omega) w4 (own_base V4.out (Nat.zero_le _)) (own_base o4 (Nat.zero_le _)))
  have W4 := hid (W3.out.plain k4)
  obtain ⟨vb, vd, rfl⟩ := own_form o4
  clear CE o4 hp hpw k4 W3 c3 c4 hlt3 V3 hmm
  go_wp2_with fail
  refine SM.out.mono ?_
  rintro e w5 ⟨rfl, nn, rfl⟩
  have W5 := hid (W4.out.drewN nn)
  have V5 := hid (own_kept V4.out ((Kept.refl (fun _ => False) _).drewN nn) (fun _ _ e => e))
  clear SM W4 V4
  generalize w4.drewN nn = w5 at *
  have hnd := hid (show m.Nodup from PI.out.nodup_iff.2 (nodes_nodup HI.out.b.gd.nd).2.1)
  go_wp2_with fail
  go_loopw [6] (fun iv wr => ∃ (a : Nat) (G' : Nat → Prop), iv = .int .i64 a ∧ a ≤ m.length ∧ wr.ownsRow w.heap.size 3 1 (.slice va m.length vc) m.length (row nat1 m) ∧ (∀ b, (Value.slice va m.length vc).ownBlock = some b → ¬ G' b) ∧ Wx w0 wr G' pw pa pm v0 (.slice xa L1.length xc) (giS s1 (m.take a)) (Tr.root t) (Tr.root (nd n i l r)) L0 L1 nx sp mo) (fun i _ => m.length - (intOf i).toNat)
  case atStart => exact ⟨0, G, rfl, Nat.zero_le _, V5.out, vF.out, W5.out⟩
  case round =>
    clear W5 V5 vF
    obtain ⟨a, G', rfl, ha, hv, hg', hW⟩ := hrel
    have HV := hid hv
    have HG := hid hg'
    have HWR := hid hW
    by_cases hlt : a < m.length
    · have hx : m[a]? = some m[a] := List.getElem?_eq_getElem hlt
      obtain ⟨g, cap, e, hgs, _, hcell⟩ := own1_at hv nat1_len hx
      obtain rfl : va = some ⟨g, 0, none⟩ := by injection e
      have gG : ¬ G' g := hg' g rfl
      have ET := hid (show m.take (a + 1) = m.take a ++ [m[a]] by rw [List.take_add_one, hx]; rfl)
      have hxm : m[a] ∈ m := List.getElem_mem hlt
      have hnt : m[a] ∉ m.take a := fun z => by
        have hn := hnd.out
        rw [← List.take_append_drop a m, List.nodup_append] at hn
        exact hn.2.2 _ z _ (by have e9 := List.drop_eq_getElem_cons hlt; rw [e9]; exact List.mem_cons.2 (Or.inl rfl)) rfl
      have vw := gi_view (m.take a) s1 GK.out ((List.take_sublist a m).nodup hnd.out) (fun i hi => (DG.out i (PI.out.mem_iff.1 (List.mem_of_mem_take hi))).1)
      have lx : LS (giS s1 (m.take a)) m[a] = true := by rw [vw.ls _ hnt]; exact (DG.out _ (PI.out.mem_iff.1 hxm)).1
      have h9 : hasS (giS s1 (m.take a)) m[a] 9 = -1 := by rw [vw.rest]; exact (DG.out _ (PI.out.mem_iff.1 hxm)).2
      have sa : (giS s1 (m.take a)).steps ≤ s.steps + 6000 + 1400 := by
        rw [gi_steps]
        have h1 := ST.out
        have h2 := List.length_take_le a m
        have h3 := ml.out
        omega
      generalize m[a] = x at *
      generalize hsA : giS s1 (m.take a) = sA at *
      have HSA := hid hsA
      have HLT := hid hlt
      clear hsA
      have ND := hid (fun w1 (k1 : Kept (fun _ => False) wr w1) => (nodeT (x : Int) (Ex.start (hW.plain k1).is) (by have := HK.out; omega)).mono fun e w' h => (show e = .returned (.int .i64 (-1)) ∧ Kept G' w1 w' ∧ Wx w0 w' G' pw pa pm v0 (.slice xa L1.length xc) (tk sA 1) (Tr.root t) (Tr.root (nd n i l r)) L0 L1 nx sp mo from ⟨by rw [h.1, show cellS sA (x : Int) 9 = -1 from cell_neg (j := 9) lx (by decide) h9], h.2.kept, (hW.plain k1).ex h.2⟩))
      have GV := hid (fun w1 w2 (W : Wx w0 w1 G' pw pa pm v0 (.slice xa L1.length xc) (tk sA 1) (Tr.root t) (Tr.root (nd n i l r)) L0 L1 nx sp mo) (k1 : Kept (fun _ => False) w1 w2) => (giveT (x : Int) (Aft.start (W.plain k1).is) (by show sA.steps + 1 ≤ _; have := HK.out; omega)).mono fun e w' h => (show e = .returned (.bool true) ∧ Kept G' w2 w' ∧ Wx w0 w' (Grow G' w2 w') pw pa pm v0 (.slice xa L1.length xc) (giveS (tk sA 1) (x : Int)) (Tr.root t) (Tr.root (nd n i l r)) L0 L1 nx sp mo from ⟨by rw [h.1, show liveS (tk sA 1) (x : Int) = true from lx], h.2.kept, (W.plain k1).aft h.2⟩))
      obtain ⟨c0, _⟩ := hW.cells
      have hltp := hW.lt
      have pG := hid hW.out
      have gG2 := hid gG
      replace hcell : wr.cell? ⟨g, a, none⟩ = some (.int .i64 (x : Int)) := hcell
      have hlt' : (a : Int) < (m.length : Int) := by omega
      have hm7 : m.length ≤ 700 := by have := ml.out; omega
      clear hx e hv hg' hW gG hxm hnt vw lx h9 sa
      go_wp2_with fail
      go_region_held3 (fun w' => w'.cell? ⟨pw, 0, none⟩ = some (.pointer (some ⟨pa, 0, none⟩)) ∧ w'.cell? ⟨g, a, none⟩ = some (.int .i64 (x : Int))) (first | exact ⟨c0, hcell⟩ | (simp [go_sem]; exact ⟨c0, hcell⟩))
        (first
          | (go_at_call 24; refine (ND.out _ (by first | exact Kept.refl _ _ | exact (Kept.refl _ _).drew | exact (Kept.refl _ _).drewN _)).mono ?_; rintro e w6 ⟨rfl, k6, W6x⟩; replace c0 := (k6.cell (p := ⟨pw, 0, none⟩) hltp pG.out).trans c0; replace hcell := (k6.cell (p := ⟨g, a, none⟩) hgs gG2.out).trans hcell; have K6 := hid k6; have W6 := hid W6x; have hltp6 := Nat.lt_of_lt_of_le hltp k6.size; have hgs6 := Nat.lt_of_lt_of_le hgs k6.size; clear k6 W6x)
          | (go_at_call 25; refine (GV.out _ _ W6.out (by first | exact Kept.refl _ _ | exact (Kept.refl _ _).drew | exact (Kept.refl _ _).drewN _)).mono ?_; rintro e w7 ⟨rfl, k7, W7x⟩; replace c0 := (k7.cell (p := ⟨pw, 0, none⟩) hltp6 pG.out).trans c0; replace hcell := (k7.cell (p := ⟨g, a, none⟩) hgs6 gG2.out).trans hcell; have K7 := hid k7; have W7 := hid W7x; clear k7 W7x))
      have V7 := hid (own_kept (own_kept (World.ownsRow.drew HV.out) K6.out (fun b hb => HG.out b hb)) K7.out (fun b hb => HG.out b hb))
      have NG := hid (show ∀ b, (Value.slice (some ⟨g, 0, none⟩) m.length vc).ownBlock = some b → ¬ Grow G' _ w7 b from fun b hb q => by
        have hbg : g = b := by simpa [Value.ownBlock] using hb
        rcases q with q | q
        · exact HG.out b hb q
        · have h1 := q.1; rw [← hbg] at h1; exact absurd h1 (Nat.not_le.2 hgs6))
      clear c0 hcell hltp hgs hltp6 hgs6 ND GV W6 K6 K7
      go_wp2
      go_roundw
      case rel => exact ⟨a + 1, _, by go_num, HLT.out, V7.out, NG.out, by rw [ET.out, gi_append, HSA.out]; exact W7.out⟩
      case measure => have := HLT.out; simp [intOf]; omega
    · obtain rfl : a = m.length := by omega
      have hge : decide ((m.length : Int) < (m.length : Int)) = false := by simp
      rw [List.take_length] at hW
      obtain ⟨c0, c1, c2, c3, c4, c5, c6, c7, cf⟩ := hW.cells
      have hlt9 := hW.lt
      have fR := cf 2
      have fV := cf 4
      have W9 := hid hW
      clear c0 c5 c6 c7 cf hv hg' HV HG HWR hW
      go_wp2_with fail
      go_region
      go_wp2
      go_ret
      have kk := ((kept_pw wr pw 2 (.int .i64 (-1))).trans' (kept_pw _ pw 4 (.slice none 0 0))).drew
      have Wz := W9.out.wrote (r1' := Tr.root lf) (v1' := .slice none 0 0) (L1' := []) kk (by have b1 := blk_set (j := 4) (u := .slice none 0 0) (blk_set (j := 2) (u := .int .i64 (-1)) W9.out.blk); simp at b1; exact b1) (W9.out.l0.kept kk fun _ q => q.2) (Lz.nil _ _)
      exact ⟨rfl, G', pa, pm, _, _, giS s1 m, t, lf, sp, mo, Wz, (DI.out 0).swap, by rw [gi_steps]; have h1 := ST.out; have h2 := ml.out; have h3 := HK.out; omega, by rw [gi_most]; exact MO.out⟩

theorem drop0S {w0 : Fm} {w : World} {pw N K : Nat} {L0 L1 : List (Nat × Int × Int)} {nx : Int} (h : Sit w0 w pw N K L0 L1 nx) (hl : L0.length ≤ 700) (hK : K ≤ 70000000) :
    Calls Tryz.prog 11 #[.pointer (some ⟨pw, 0, none⟩), .int .i64 0] w fun e w' => e = .returned (.bool true) ∧ Sit w0 w' pw N (K + 10000) [] L1 nx := by
  by_cases h0 : L0 = []
  · subst h0
    refine (drop0_none h hK).mono ?_
    rintro e w1 ⟨rfl, s1⟩
    exact ⟨rfl, s1.mono (by omega)⟩
  · exact drop0_some h h0 hl hK
theorem drop1S {w0 : Fm} {w : World} {pw N K : Nat} {L0 L1 : List (Nat × Int × Int)} {nx : Int} (h : Sit w0 w pw N K L0 L1 nx) (hl : L1.length ≤ 700) (hK : K ≤ 70000000) :
    Calls Tryz.prog 11 #[.pointer (some ⟨pw, 0, none⟩), .int .i64 1] w fun e w' => e = .returned (.bool true) ∧ Sit w0 w' pw N (K + 10000) L0 [] nx := by
  by_cases h0 : L1 = []
  · subst h0
    refine (drop1_none h hK).mono ?_
    rintro e w1 ⟨rfl, s1⟩
    exact ⟨rfl, s1.mono (by omega)⟩
  · exact drop1_some h h0 hl hK
end Go.Proofs.YtnkpopeahmjodaaGreat
