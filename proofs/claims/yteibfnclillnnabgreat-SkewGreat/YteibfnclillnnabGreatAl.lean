/- Leftist heaps: nodes, items, All. -/
import Derived.Test.YteibfnclillnnabGreatGj
import Derived.Test.YteibfnclillnnabGreatSo
import Derived.Deep.Onto
namespace Go.Proofs.YteibfnclillnnabGreat
open Go.ChangeShapes Go.WideShapes Go.ChangeAt Go.RowKit
open Tr

/-- what is appended -/
def Src (B : Nat) (w : World) (x : Value) (l : List Nat) : Prop :=
  (x = .slice none 0 0 ∧ l = []) ∨ ∃ b off c, x = .slice (some ⟨b, off, none⟩) l.length c ∧ b < B ∧ ∀ (i x : Nat), l[i]? = some x → w.cell? ⟨b, off + i, none⟩ = some (.int .i64 (x : Int))
theorem nat1_at : ∀ (l : List Nat) (j : Nat), (row nat1 l)[j]? = (l[j]?).map fun x => .int .i64 (x : Int)
  | [], j => by simp [row]
  | x :: r, 0 => by simp [row, nat1]
  | x :: r, j + 1 => by simp [row, nat1]; simpa using nat1_at r j
theorem nat1_row_len (l : List Nat) : (row nat1 l).length = l.length := by rw [row_length nat1_len, Nat.mul_one]
theorem Src.kept {B : Nat} {w w' : World} {v : Value} {l : List Nat} (h : Src B w v l) (k : Below B w w') : Src B w' v l := by
  rcases h with h | ⟨b, off, c, e, h1, h2⟩
  · exact Or.inl h
  · exact Or.inr ⟨b, off, c, e, h1, fun i x hx => (k.cell (p := ⟨b, _, none⟩) h1).trans (h2 i x hx)⟩
theorem Src.one (w : World) (c : Nat) : Src (w.heap.size + 1) (w.alloc (.cells #[.int .i64 (c : Int)] 3)) (.slice (some ⟨w.heap.size, 0, none⟩) 1 1) [c] := by
  refine Or.inr ⟨w.heap.size, 0, 1, rfl, by omega, fun i x hx => ?_⟩
  have hi : i = 0 := by have := (List.getElem?_eq_some_iff.1 hx).1; simpa using this
  subst hi
  simp at hx
  subst hx
  exact blk_cell (heap_alloc_new w (.cells #[.int .i64 (c : Int)] 3)) rfl
theorem append_src {base B : Nat} (w : World) (ty : TypeId) (v x : Value) (n : Nat) (xs : List Value) (l : List Nat) (hown : w.ownsRow base 3 1 v n xs) (hx : Src B w x l) (h63 : n + l.length ≤ 1000000) (hbase : base ≤ w.heap.size) :
    ∃ v' w', (Builtin.append_ #[23, 23] ty #[v, x]).run Tryz.prog w = .ok v' w' ∧ w'.ownsRow base 3 1 v' (n + l.length) (xs ++ row nat1 l) ∧ w.grownBy w' v.ownBlock := by
  obtain ⟨i, hi, h0, h1, h2⟩ := info_parts info3
  rcases hx with ⟨rfl, rfl⟩ | ⟨b, off, c, rfl, hb, hc⟩
  · exact ⟨v, w, run_append_owned_none (P := Tryz.prog) w base 23 ty 3 i 1 Tryz.underlying23 hi v n xs hown, by simpa [row] using hown, ⟨rfl, rfl, rfl, Nat.le_refl _, fun _ _ _ => rfl⟩⟩
  · obtain ⟨v', w', hr, q1, q2, _⟩ := run_append_own (P := Tryz.prog) w base 23 ty 3 i _ 1 8 Tryz.underlying23 hi h0 h1 h2 rfl (by decide) v n xs hown ⟨b, off, none⟩ l.length c (row nat1 l) (by rw [nat1_row_len, Nat.mul_one]) (fun j u hu => by
      rw [nat1_at] at hu
      cases hj : l[j]? with
      | none => simp [hj] at hu
      | some y =>
        simp [hj] at hu
        subst hu
        have := hc j y hj
        rwa [show (⟨b, off, none⟩ : Addr).add j = ⟨b, off + j, none⟩ by unfold Addr.add; split <;> simp_all]) (row_one nat1_one l) (by simp [maxLen]; omega) (by omega) hbase
    exact ⟨v', w', hr, q1, q2⟩
theorem step_append_src {ops : Array Oper} {o : Oper} {a : Act} {w : World} {K : Act → World → Prop} {Q : Exit → Act → World → Prop} {E : Prop} (hgd : o.guard = none) (s y : Operand)
    (ho : o.op = .call { callee := .builtin .append, args := #[s, y], argTypes := #[23, 23] })
    (base B : Nat) (v x : Value) (n : Nat) (xs : List Value) (l : List Nat) (hs : a.eval s = v) (hy : a.eval y = x) (hown : w.ownsRow base 3 1 v n xs) (hx : Src B w x l)
    (h63 : n + l.length ≤ 1000000) (hbase : base ≤ w.heap.size)
    (h : ∀ v' w', w'.ownsRow base 3 1 v' (n + l.length) (xs ++ row nat1 l) → w.grownBy w' v.ownBlock → K (a.put o.dst v') w') :
    if Region.wanted o (yielded ops a.tmps) = true then Oper.wp Tryz.prog o a w K Q else E := by
  have hw : Region.wanted o (yielded ops a.tmps) = true := by simp [Region.wanted, hgd]
  rw [if_pos hw]
  obtain ⟨v', w', hr, h2, h3⟩ := append_src w o.type v x n xs l hown hx h63 hbase
  unfold Oper.wp execOp
  simp only [ho, resolve, invoke, builtin, Sem.run_bind, Sem.run_pure, Result.andThen_ok, List.map_toArray, List.map_cons, List.map_nil, hs, hy, hr]
  exact h v' w' h2 h3
theorem wpList_append_src {ops : Array Oper} {rest : List Oper} {o : Oper} {a : Act} {w : World} {Q : Exit → Act → World → Prop} (hgd : o.guard = none) (s y : Operand)
    (ho : o.op = .call { callee := .builtin .append, args := #[s, y], argTypes := #[23, 23] })
    (base B : Nat) (v x : Value) (n : Nat) (xs : List Value) (l : List Nat) (hs : a.eval s = v) (hy : a.eval y = x) (hown : w.ownsRow base 3 1 v n xs) (hx : Src B w x l)
    (h63 : n + l.length ≤ 1000000) (hbase : base ≤ w.heap.size)
    (h : ∀ v' w', w'.ownsRow base 3 1 v' (n + l.length) (xs ++ row nat1 l) → w.grownBy w' v.ownBlock → wpList Tryz.prog ops Q rest (a.put o.dst v') w') : wpList Tryz.prog ops Q (o :: rest) a w := by
  refine wpList_plain hgd fun _ hK => ?_
  obtain ⟨v', w', hr, h2, h3⟩ := append_src w o.type v x n xs l hown hx h63 hbase
  unfold Oper.wp execOp
  simp only [ho, resolve, invoke, builtin, Sem.run_bind, Sem.run_pure, Result.andThen_ok, List.map_toArray, List.map_cons, List.map_nil, hs, hy, hr]
  exact hK _ _ (h v' w' h2 h3)

theorem kept_of_grown {w w' : World} {row : Option Nat} (h : w.grownBy w' row) : Kept (fun k => row = some k) w w' := ⟨h.os, h.tape, h.output, h.size, fun k hk hn => h.block k hk fun e => hn e.symm⟩
/-- a row that lies above a base lies above a lower one -/
theorem own_base {w : World} {b b' : Nat} {e : TypeId} {s n : Nat} {v : Value} {xs : List Value} (h : w.ownsRow b e s v n xs) (hb : b' ≤ b) : w.ownsRow b' e s v n xs := by
  refine ⟨h.1, ?_⟩
  rcases h.2 with h' | ⟨g, cap, cur, rfl, hb', r⟩
  · exact Or.inl h'
  · exact Or.inr ⟨g, cap, cur, rfl, by omega, r⟩
/-- which item a node has -/
def itS (s : St) (n : Nat) : Nat := (hasS s n 6).toNat
set_option maxHeartbeats 4000000 in
theorem itemsT {F : Nat → Prop} {w : World} {pa pm base : Nat} {s : St} {v : Value} {L : List Nat} (h : IsA w F pa pm s) (hv : w.ownsRow base 3 1 v L.length (row nat1 L)) (hF : ∀ b, v.ownBlock = some b → ¬ F b) (hc : ∀ n ∈ L, cellS s (n : Int) 6 = (itS s n : Int)) (hz : L.length ≤ 1000) (hs : s.steps ≤ 90000000) :
    Calls Tryz.prog 56 #[.pointer (some ⟨pa, 0, none⟩), v] w fun e w' => ∃ v' m, e = .returned v' ∧ w'.ownsRow w.heap.size 3 1 v' m.length (row nat1 m) ∧ m.Perm (L.map (itS s)) ∧ m.Pairwise (fun a b => a ≤ b) ∧ Ex F w w' pa pm (tk s L.length) := by
  have HV := hid hv
  have HC := hid hc
  have HF := hid hF
  have FL := hid h.lt
  have HS := hid (Ex.start h)
  obtain ⟨va, vc, rfl⟩ := own_form hv
  have VB := hid (fun b hb => (hv.lt b hb).2)
  clear hv hc hF h
  go_enter Tryz.func56, Tryz.ntmps56
  go_wp2_with fail
  go_loopw [5, 7, 12] (fun tv _ iv wr => ∃ (a : Nat), iv = .int .i64 a ∧ a ≤ L.length ∧ wr.ownsRow w.heap.size 3 1 tv a (row nat1 ((L.take a).map (itS s))) ∧ wr.ownsRow base 3 1 (.slice va L.length vc) L.length (row nat1 L) ∧ Ex F w wr pa pm (tk s a)) (fun _ _ i _ => L.length - (intOf i).toNat)
  case atStart => exact ⟨0, rfl, Nat.zero_le _, World.ownsRow_nil _ _ _ _, HV.out, HS.out⟩
  case round =>
    obtain ⟨a, rfl, ha, ho, hv, he⟩ := hrel
    clear HS HV
    have HO := hid ho
    have HV := hid hv
    have HE := hid he
    obtain ⟨ta, tc, rfl⟩ := own_form ho
    by_cases hlt : a < L.length
    · have hx : L[a]? = some L[a] := List.getElem?_eq_getElem hlt
      obtain ⟨g, cap, e, hg, _, hcell⟩ := own1_at hv nat1_len hx
      obtain rfl : va = some ⟨g, 0, none⟩ := by injection e
      have CE := hid (cellT (L[a] : Int) 6 (Ex.start he.is) (by show s.steps + a ≤ _; omega))
      rw [show cellS (tk s a) (L[a] : Int) 6 = (itS s L[a] : Int) from HC.out _ (List.getElem_mem hlt)] at CE
      have ET := hid (show (L.take (a + 1)).map (itS s) = (L.take a).map (itS s) ++ [itS s L[a]] by rw [List.take_add_one, List.map_append, hx]; rfl)
      generalize L[a] = x at *
      generalize itS s x = y at *
      replace hcell : wr.cell? ⟨g, a, none⟩ = some (.int .i64 (x : Int)) := hcell
      have hlt' : (a : Int) < (L.length : Int) := by omega
      clear hx ho hv he e
      go_wp2_with fail
      refine CE.out.mono ?_
      rintro e w4 ⟨rfl, h4⟩
      have O4 := hid (own_kept HO.out h4.kept (fun b hb q => by have := FL.out b q; have := (HO.out.lt b hb).1; omega))
      have V4 := hid (own_kept HV.out h4.kept (fun b hb => HF.out b hb))
      have X4 := hid (HE.out.stay h4.is h4.kept)
      have S4 := hid (Nat.le_trans HE.out.kept.size h4.kept.size)
      have hg4 : g < w4.heap.size := Nat.lt_of_lt_of_le hg h4.kept.size
      clear h4 CE HE HO HV hcell hg
      go_wp2_with (at_builtin; refine wpList_append_src rfl (.tmp 16) (.tmp 20) rfl w.heap.size _ _ _ a _ [y] rfl rfl (World.ownsRow.alloc O4.out _) (Src.one _ _) (by simp; omega) (by have := S4.out; simp; omega) ?_; intro v5 w5 o5 g5; have O5 := hid o5; have X5 := hid ((X4.out.plain ((Kept.refl _ _).alloc _)).other (kept_of_grown g5) (fun b hF hb => by have := FL.out b hF; have := (O4.out.lt b hb).1; omega) (fun b hb => (O4.out.lt b hb).1)); have V5 := hid (own_kept (own_plain V4.out ((Kept.refl _ _).alloc _)) (kept_of_grown g5) (fun b hb q => by have := VB.out b hb; have := (O4.out.lt b q).1; omega)); obtain ⟨va5, vc5, rfl⟩ := own_form o5; clear o5 g5)
      go_wp2
      go_roundw
      case rel => exact ⟨a + 1, by go_num, by omega, by rw [ET.out, row_append]; exact O5.out, V5.out, X5.out⟩
      case measure => simp [intOf]; omega
    · obtain rfl : a = L.length := by omega
      have hge : decide ((L.length : Int) < (L.length : Int)) = false := by simp
      rw [List.take_of_length_le (Nat.le_refl _)] at ho HO
      have SO := hid (fun w1 (k1 : Kept (fun _ => False) wr w1) => sortN _ (L.map (itS s)) w1 w.heap.size (by rw [List.length_map]; exact own_plain ho k1) (by rw [List.length_map]; omega))
      clear ho hv he
      go_wp2_with fail
      refine (SO.out _ (Kept.refl _ _)).mono ?_
      rintro e w5 ⟨rfl, m, p1, p2, o5, k5⟩
      have P1 := hid p1
      have P2 := hid p2
      have O5 := hid o5
      have X5 := hid (HE.out.other k5 (fun b hF hb => by have := FL.out b hF; have := (HO.out.lt b hb).1; omega) (fun b hb => (HO.out.lt b hb).1))
      clear p1 p2 o5 k5 SO
      go_wp2
      go_ret
      exact ⟨_, m, rfl, O5.out, P1.out, P2.out, X5.out⟩


/-- all nodes of a heap -/
def nodn (t : List Bn) : List Nat := t.flatMap bnod
theorem row_nat (l : List Nat) : row int1 (l.map fun (c : Nat) => (c : Int)) = row nat1 l := by
  induction l with
  | nil => rfl
  | cons x r ih => simp only [List.map_cons, row] at ih ⊢; rw [ih]; rfl
section
variable {s : St}
theorem vw_map {L : Nat → Bool} : ∀ {up : Int} {t : Tr}, Vw L (hasS s) up t → t.items = t.nodes.map (itS s)
  | _, lf, _ => rfl
  | up, nd n i k r, h => by
    simp only [Tr.items, Tr.nodes, List.map_cons, List.map_append, vw_map h.2.1, vw_map h.2.2]
    congr 1
    unfold itS
    rw [h.1.2.2.2.2.2.2.2.1]; simp
theorem vb_map {L : Nat → Bool} {b : Bn} (h : Vb L (hasS s) b) : b.items = (bnod b).map (itS s) := by
  simp only [Bn.items, bnod, List.map_cons, vw_map h.kids]
  congr 1
  unfold itS
  rw [h.item]; simp
theorem its_map {L : Nat → Bool} {t : List Bn} (h : ∀ b ∈ t, Vb L (hasS s) b) : its t = (nodn t).map (itS s) := by
  induction t with
  | nil => rfl
  | cons b r ih =>
    have h1 := vb_map (h b (by simp))
    have h2 := ih fun c hc => h c (by simp [hc])
    unfold its nodn at *
    rw [List.flatMap_cons, List.flatMap_cons, List.map_append, h1, h2]
theorem vw_six : ∀ {up : Int} {t : Tr}, Vw (LS s) (hasS s) up t → ∀ n ∈ t.nodes, hasS s n 6 = (itS s n : Int) ∧ LS s (itS s n) = true ∧ itS s n ∈ t.items ∧ LS s n = true
  | _, lf, _, n, hn => by simp [nodes] at hn
  | up, nd m i k r, h, n, hn => by
    simp only [nodes, List.mem_cons, List.mem_append] at hn
    rcases hn with rfl | hn | hn
    · have b5 := h.1.2.2.2.2.2.2.2.1
      have e : itS s n = i := by unfold itS; rw [b5]; simp
      rw [e]; exact ⟨b5, h.1.2.1, by simp [items], h.1.1⟩
    · obtain ⟨a, b, c, d⟩ := vw_six h.2.1 n hn
      exact ⟨a, b, by simp [items, c], d⟩
    · obtain ⟨a, b, c, d⟩ := vw_six h.2.2 n hn
      exact ⟨a, b, by simp [items, c], d⟩
theorem bh_six {t : List Bn} (h : ∀ b ∈ t, Vb (LS s) (hasS s) b) : ∀ n ∈ nodn t, hasS s n 6 = (itS s n : Int) ∧ LS s (itS s n) = true ∧ itS s n ∈ its t ∧ LS s n = true := fun n hn => by
  obtain ⟨b, hb, hnb⟩ := List.mem_flatMap.1 hn
  have hv := h b hb
  simp only [bnod, List.mem_cons] at hnb
  rcases hnb with rfl | hnb
  · have e : itS s b.n = b.i := by unfold itS; rw [hv.item]; simp
    rw [e]; exact ⟨hv.item, hv.li, List.mem_flatMap.2 ⟨b, hb, by simp [Bn.items]⟩, hv.ln⟩
  · obtain ⟨a1, a2, a3, a4⟩ := vw_six hv.kids n hnb
    exact ⟨a1, a2, List.mem_flatMap.2 ⟨b, hb, by simp [Bn.items, a3]⟩, a4⟩
theorem bh_cell {t : List Bn} (ok : Ok s) (h : ∀ b ∈ t, Vb (LS s) (hasS s) b) : ∀ n ∈ nodn t, cellS s (n : Int) 6 = (itS s n : Int) := fun n hn => by
  obtain ⟨a, b, _, d⟩ := bh_six h n hn
  exact cell_nat (j := 6) ok d (by decide) a b
theorem nodes_sub : ∀ t : Tr, List.Sublist t.nodes t.cells
  | lf => List.Sublist.slnil
  | nd n i k r => by
    simp only [nodes, cells]
    exact .cons_cons n (.cons i ((nodes_sub k).append (nodes_sub r)))
theorem nodn_sub : ∀ t : List Bn, List.Sublist (nodn t) (cel t)
  | [] => List.Sublist.slnil
  | b :: r => by
    have ih := nodn_sub r
    unfold nodn cel at ih ⊢
    simp only [List.flatMap_cons]
    refine List.Sublist.append ?_ ih
    unfold bnod Bn.cells
    exact .cons_cons _ (.cons _ (nodes_sub b.k))
theorem nodn_nd {lt : Nat → Nat → Bool} {s : St} {t : List Bn} (h : Bh lt s t) : (nodn t).Nodup := (nodn_sub t).nodup h.nd
theorem nod_len {L : Nat → Bool} {t : List Bn} (h : ∀ b ∈ t, Vb L (hasS s) b) : (nodn t).length = (its t).length := by rw [its_map h, List.length_map]
end
section
variable {F : Nat → Prop} {w : World} {pa pm : Nat} {s : St} {t u : List Bn} {L M : List (Nat × Int × Int)}
theorem nodesN (h : Inv s t u L M) (hl : L.length ≤ 1000) (hi : IsA w F pa pm s) (hs : s.steps ≤ 90000000) :
    Calls Tryz.prog 57 #[.pointer (some ⟨pa, 0, none⟩), .int .i64 (headr t)] w fun e w' => ∃ v D k, e = .returned v ∧ w'.ownsRow w.heap.size 3 1 v D.length (row nat1 D) ∧ D.Perm (nodn t) ∧ k ≤ 51 + 50 * L.length ∧ Ex F w w' pa pm (tk s k) := by
  have hz : (nodn t).length = L.length := by rw [nod_len fun b hb => (h.a.gd.vb b hb).1, h.a.len]
  have ln := (h.a.gd.small (by show (its t).length ≤ _; have := h.a.len; omega)).2
  refine (nodesT t (fun b hb => (h.a.gd.vb b hb).1) (fun b hb => (h.a.gd.vb b hb).2.1) (nodn_nd h.a.gd) h.a.gd.ch (tops_nodup h.a.gd.nd) h.ok (by omega) h.a.gd.rk (by show (nodn t).length ≤ _; omega) hi (by omega)).mono ?_
  rintro e w1 ⟨v, rfl, P, o, p, k, hk, a1, q1⟩
  refine ⟨v, P.map Bn.n, k, rfl, ?_, p, by rw [show (t.flatMap bnod).length = L.length from hz] at hk; omega, a1, q1⟩
  have e : nds P = (P.map Bn.n).map fun (c : Nat) => (c : Int) := by simp [nds]
  unfold Own at o
  rw [e, row_nat] at o
  simpa using o
set_option maxHeartbeats 1000000 in
/-- All -/
theorem allC (h : Inv s t u L M) (hl : L.length ≤ 1000) (hi : IsA w F pa pm s) (hs : s.steps ≤ 80000000) :
    Calls Tryz.prog 36 #[.pointer (some ⟨pa, 0, none⟩), .int .i64 (headr t)] w fun e w' => ∃ v m k, e = .returned v ∧ w'.ownsRow w.heap.size 3 1 v m.length (row nat1 m) ∧ m.Perm (its t) ∧ m.Pairwise (fun a b => a ≤ b) ∧ k ≤ 51 + 51 * L.length ∧ Ex F w w' pa pm (tk s k) := by
  have N := hid (nodesN h hl hi (by omega))
  have FL := hid hi.lt
  have HC := hid (bh_cell h.ok fun b hb => (h.a.gd.vb b hb).1)
  have HM := hid (its_map (s := s) (t := t) fun b hb => (h.a.gd.vb b hb).1)
  have hz : (nodn t).length = L.length := by rw [nod_len fun b hb => (h.a.gd.vb b hb).1, h.a.len]
  clear h hi
  generalize headr t = r0 at *
  go_enter Tryz.func36, Tryz.ntmps36
  go_wp2_with fail
  refine N.out.mono ?_
  rintro e w1 ⟨v1, D, k, rfl, o1, p1, hk, h1⟩
  have hL : D.length = L.length := by rw [p1.length_eq]; exact hz
  have I := hid (itemsT h1.is o1 (fun b hb q => by have := FL.out b q; have := (o1.lt b hb).1; omega) (fun n hn => (HC.out n (p1.mem_iff.1 hn) : cellS s (n : Int) 6 = (itS s n : Int))) (by omega) (by show s.steps + k ≤ _; omega))
  have H1 := hid h1
  have P1 := hid (show (D.map (itS s)).Perm (its t) by rw [HM.out]; exact p1.map _)
  obtain ⟨va1, vc1, rfl⟩ := own_form o1
  have HL := hid hL
  clear N o1 p1 h1 hL hz
  go_wp2_with fail
  refine I.out.mono ?_
  rintro e w2 ⟨v, m, rfl, o2, p2, q2, h2⟩
  have O2 := hid o2
  have P2 := hid (List.Perm.trans (show m.Perm (D.map (itS s)) from p2) P1.out)
  have Q2 := hid q2
  have H2 := hid (show Ex F w w2 pa pm (tk s (k + D.length)) by rw [← tk_tk]; exact H1.out.stay h2.is h2.kept)
  have S1 := hid H1.out.kept.size
  obtain ⟨va, vc, rfl⟩ := own_form o2
  clear o2 p2 q2 h2 I
  go_wp2
  go_ret
  exact ⟨_, m, k + D.length, rfl, own_base O2.out S1.out, P2.out, Q2.out, by have := HL.out; omega, H2.out⟩
end
end Go.Proofs.YteibfnclillnnabGreat
