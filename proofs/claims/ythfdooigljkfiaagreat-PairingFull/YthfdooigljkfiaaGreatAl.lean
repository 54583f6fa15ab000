/- Leftist heaps: nodes, items, All. -/
import Derived.Test.YthfdooigljkfiaaGreatGf
import Derived.Test.YthfdooigljkfiaaGreatGg
import Derived.Test.YthfdooigljkfiaaGreatSo
import Derived.Deep.Onto
namespace Go.Proofs.YthfdooigljkfiaaGreat
open Go.ChangeShapes Go.WideShapes Go.ChangeAt Go.RowKit
open Tr

/-- what is appended -/
def Src (B : Nat) (w : World) (x : Value) (l : List Nat) : Prop :=
  (x = .slice none 0 0 ∧ l = []) ∨ ∃ b off c, x = .slice (some ⟨b, off, none⟩) l.length c ∧ b < B ∧ ∀ (i x : Nat), l[i]? = some x → w.cell? ⟨b, off + i, none⟩ = some (.int .i64 (x : Int))
theorem nat1_at : ∀ (l : List Nat) (j : Nat), (row nat1 l)[j]? = (l[j]?).map fun x => .int .i64 (x : Int)
  | [], j => by simp [row]
  | x :: r, 0 => by simp [row, nat1]
  | x :: r, j + 1 => by simp [row, nat1]; simpa using nat1_at r j
theorem nat1_row_len (l : List Nat) : (row nat1 l).length = l.length := by rw [row_length nat1_len, Nat.mul_one]
theorem Src.kept {B : Nat} {w w' : World} {v : Value} {l : List Nat} (h : Src B w v l) (k : Below B w w') : Src B w' v l := by
  rcases h with h | ⟨b, off, c, e, h1, h2⟩
  · exact Or.inl h
  · exact Or.inr ⟨b, off, c, e, h1, fun i x hx => (k.cell (p := ⟨b, _, none⟩) h1).trans (h2 i x hx)⟩
theorem Src.one (w : World) (c : Nat) : Src (w.heap.size + 1) (w.alloc (.cells #[.int .i64 (c : Int)] 3)) (.slice (some ⟨w.heap.size, 0, none⟩) 1 1) [c] := by
  refine Or.inr ⟨w.heap.size, 0, 1, rfl, by omega, fun i x hx => ?_⟩
  have hi : i = 0 := by have := (List.getElem?_eq_some_iff.1 hx).1; simpa using this
  subst hi
  simp at hx
  subst hx
  exact blk_cell (heap_alloc_new w (.cells #[.int .i64 (c : Int)] 3)) rfl
theorem append_src {base B : Nat} (w : World) (ty : TypeId) (v x : Value) (n : Nat) (xs : List Value) (l : List Nat) (hown : w.ownsRow base 3 1 v n xs) (hx : Src B w x l) (h63 : n + l.length ≤ 1000000) (hbase : base ≤ w.heap.size) :
    ∃ v' w', (Builtin.append_ #[61, 61] ty #[v, x]).run Tryz.prog w = .ok v' w' ∧ w'.ownsRow base 3 1 v' (n + l.length) (xs ++ row nat1 l) ∧ w.grownBy w' v.ownBlock := by
  obtain ⟨i, hi, h0, h1, h2⟩ := info_parts info3
  rcases hx with ⟨rfl, rfl⟩ | ⟨b, off, c, rfl, hb, hc⟩
  · exact ⟨v, w, run_append_owned_none (P := Tryz.prog) w base 61 ty 3 i 1 Tryz.underlying61 hi v n xs hown, by simpa [row] using hown, ⟨rfl, rfl, rfl, Nat.le_refl _, fun _ _ _ => rfl⟩⟩
  · obtain ⟨v', w', hr, q1, q2, _⟩ := run_append_own (P := Tryz.prog) w base 61 ty 3 i _ 1 8 Tryz.underlying61 hi h0 h1 h2 rfl (by decide) v n xs hown ⟨b, off, none⟩ l.length c (row nat1 l) (by rw [nat1_row_len, Nat.mul_one]) (fun j u hu => by
      rw [nat1_at] at hu
      cases hj : l[j]? with
      | none => simp [hj] at hu
      | some y =>
        simp [hj] at hu
        subst hu
        have := hc j y hj
        rwa [show (⟨b, off, none⟩ : Addr).add j = ⟨b, off + j, none⟩ by unfold Addr.add; split <;> simp_all]) (row_one nat1_one l) (by simp [maxLen]; omega) (by omega) hbase
    exact ⟨v', w', hr, q1, q2⟩
theorem step_append_src {ops : Array Oper} {o : Oper} {a : Act} {w : World} {K : Act → World → Prop} {Q : Exit → Act → World → Prop} {E : Prop} (hgd : o.guard = none) (s y : Operand)
    (ho : o.op = .call { callee := .builtin .append, args := #[s, y], argTypes := #[61, 61] })
    (base B : Nat) (v x : Value) (n : Nat) (xs : List Value) (l : List Nat) (hs : a.eval s = v) (hy : a.eval y = x) (hown : w.ownsRow base 3 1 v n xs) (hx : Src B w x l)
    (h63 : n + l.length ≤ 1000000) (hbase : base ≤ w.heap.size)
    (h : ∀ v' w', w'.ownsRow base 3 1 v' (n + l.length) (xs ++ row nat1 l) → w.grownBy w' v.ownBlock → K (a.put o.dst v') w') :
    if Region.wanted o (yielded ops a.tmps) = true then Oper.wp Tryz.prog o a w K Q else E := by
  have hw : Region.wanted o (yielded ops a.tmps) = true := by simp [Region.wanted, hgd]
  rw [if_pos hw]
  obtain ⟨v', w', hr, h2, h3⟩ := append_src w o.type v x n xs l hown hx h63 hbase
  unfold Oper.wp execOp
  simp only [ho, resolve, invoke, builtin, Sem.run_bind, Sem.run_pure, Result.andThen_ok, List.map_toArray, List.map_cons, List.map_nil, hs, hy, hr]
  exact h v' w' h2 h3
theorem wpList_append_src {ops : Array Oper} {rest : List Oper} {o : Oper} {a : Act} {w : World} {Q : Exit → Act → World → Prop} (hgd : o.guard = none) (s y : Operand)
    (ho : o.op = .call { callee := .builtin .append, args := #[s, y], argTypes := #[61, 61] })
    (base B : Nat) (v x : Value) (n : Nat) (xs : List Value) (l : List Nat) (hs : a.eval s = v) (hy : a.eval y = x) (hown : w.ownsRow base 3 1 v n xs) (hx : Src B w x l)
    (h63 : n + l.length ≤ 1000000) (hbase : base ≤ w.heap.size)
    (h : ∀ v' w', w'.ownsRow base 3 1 v' (n + l.length) (xs ++ row nat1 l) → w.grownBy w' v.ownBlock → wpList Tryz.prog ops Q rest (a.put o.dst v') w') : wpList Tryz.prog ops Q (o :: rest) a w := by
  refine wpList_plain hgd fun _ hK => ?_
  obtain ⟨v', w', hr, h2, h3⟩ := append_src w o.type v x n xs l hown hx h63 hbase
  unfold Oper.wp execOp
  simp only [ho, resolve, invoke, builtin, Sem.run_bind, Sem.run_pure, Result.andThen_ok, List.map_toArray, List.map_cons, List.map_nil, hs, hy, hr]
  exact hK _ _ (h v' w' h2 h3)

theorem kept_of_grown {w w' : World} {row : Option Nat} (h : w.grownBy w' row) : Kept (fun k => row = some k) w w' := ⟨h.os, h.tape, h.output, h.size, fun k hk hn => h.block k hk fun e => hn e.symm⟩
/-- a row that lies above a base lies above a lower one -/
theorem own_base {w : World} {b b' : Nat} {e : TypeId} {s n : Nat} {v : Value} {xs : List Value} (h : w.ownsRow b e s v n xs) (hb : b' ≤ b) : w.ownsRow b' e s v n xs := by
  refine ⟨h.1, ?_⟩
  rcases h.2 with h' | ⟨g, cap, cur, rfl, hb', r⟩
  · exact Or.inl h'
  · exact Or.inr ⟨g, cap, cur, rfl, by omega, r⟩
/-- which item a node has -/
def itS (s : St) (n : Nat) : Nat := (hasS s n 6).toNat
set_option maxHeartbeats 4000000 in
theorem itemsT {F : Nat → Prop} {w : World} {pa pm base : Nat} {s : St} {v : Value} {L : List Nat} (h : IsA w F pa pm s) (hv : w.ownsRow base 3 1 v L.length (row nat1 L)) (hF : ∀ b, v.ownBlock = some b → ¬ F b) (hc : ∀ n ∈ L, cellS s (n : Int) 6 = (itS s n : Int)) (hz : L.length ≤ 1000) (hs : s.steps ≤ 90000000) :
    Calls Tryz.prog 53 #[.pointer (some ⟨pa, 0, none⟩), v] w fun e w' => ∃ v' m, e = .returned v' ∧ w'.ownsRow w.heap.size 3 1 v' m.length (row nat1 m) ∧ m.Perm (L.map (itS s)) ∧ m.Pairwise (fun a b => a ≤ b) ∧ Ex F w w' pa pm (tk s L.length) := by
  have HV := hid hv
  have HC := hid hc
  have HF := hid hF
  have FL := hid h.lt
  have HS := hid (Ex.start h)
  obtain ⟨va, vc, rfl⟩ := own_form hv
  have VB := hid (fun b hb => (hv.lt b hb).2)
  clear hv hc hF h
  go_enter Tryz.func53, Tryz.ntmps53
  go_wp2_with fail
  go_loopw [5, 7, 12] (fun tv _ iv wr => ∃ (a : Nat), iv = .int .i64 a ∧ a ≤ L.length ∧ wr.ownsRow w.heap.size 3 1 tv a (row nat1 ((L.take a).map (itS s))) ∧ wr.ownsRow base 3 1 (.slice va L.length vc) L.length (row nat1 L) ∧ Ex F w wr pa pm (tk s a)) (fun _ _ i _ => L.length - (intOf i).toNat)
  case atStart => exact ⟨0, rfl, Nat.zero_le _, World.ownsRow_nil _ _ _ _, HV.out, HS.out⟩
  case round =>
    obtain ⟨a, rfl, ha, ho, hv, he⟩ := hrel
    clear HS HV
    have HO := hid ho
    have HV := hid hv
    have HE := hid he
    obtain ⟨ta, tc, rfl⟩ := own_form ho
    by_cases hlt : a < L.length
    · have hx : L[a]? = some L[a] := List.getElem?_eq_getElem hlt
      obtain ⟨g, cap, e, hg, _, hcell⟩ := own1_at hv nat1_len hx
      obtain rfl : va = some ⟨g, 0, none⟩ := by injection e
      have CE := hid (cellT (L[a] : Int) 6 (Ex.start he.is) (by show s.steps + a ≤ _; omega))
      rw [show cellS (tk s a) (L[a] : Int) 6 = (itS s L[a] : Int) from HC.out _ (List.getElem_mem hlt)] at CE
      have ET := hid (show (L.take (a + 1)).map (itS s) = (L.take a).map (itS s) ++ [itS s L[a]] by rw [List.take_add_one, List.map_append, hx]; rfl)
      generalize L[a] = x at *
      generalize itS s x = y at *
      replace hcell : wr.cell? ⟨g, a, none⟩ = some (.int .i64 (x : Int)) := hcell
      have hlt' : (a : Int) < (L.length : Int) := by omega
      clear hx ho hv he e
      go_wp2_with fail
      refine CE.out.mono ?_
      rintro e w4 ⟨rfl, h4⟩
      have O4 := hid (own_kept HO.out h4.kept (fun b hb q => by have := FL.out b q; have := (HO.out.lt b hb).1; omega))
      have V4 := hid (own_kept HV.out h4.kept (fun b hb => HF.out b hb))
      have X4 := hid (HE.out.stay h4.is h4.kept)
      have S4 := hid (Nat.le_trans HE.out.kept.size h4.kept.size)
      have hg4 : g < w4.heap.size := Nat.lt_of_lt_of_le hg h4.kept.size
      clear h4 CE HE HO HV hcell hg
      go_wp2_with (at_builtin; refine wpList_append_src rfl (.tmp 16) (.tmp 20) rfl w.heap.size _ _ _ a _ [y] rfl rfl (World.ownsRow.alloc O4.out _) (Src.one _ _) (by simp; omega) (by have := S4.out; simp; omega) ?_; intro v5 w5 o5 g5; have O5 := hid o5; have X5 := hid ((X4.out.plain ((Kept.refl _ _).alloc _)).other (kept_of_grown g5) (fun b hF hb => by have := FL.out b hF; have := (O4.out.lt b hb).1; omega) (fun b hb => (O4.out.lt b hb).1)); have V5 := hid (own_kept (own_plain V4.out ((Kept.refl _ _).alloc _)) (kept_of_grown g5) (fun b hb q => by have := VB.out b hb; have := (O4.out.lt b q).1; omega)); obtain ⟨va5, vc5, rfl⟩ := own_form o5; clear o5 g5)
      go_wp2
      go_roundw
      case rel => exact ⟨a + 1, by go_num, by omega, by rw [ET.out, row_append]; exact O5.out, V5.out, X5.out⟩
      case measure => simp [intOf]; omega
    · obtain rfl : a = L.length := by omega
      have hge : decide ((L.length : Int) < (L.length : Int)) = false := by simp
      rw [List.take_of_length_le (Nat.le_refl _)] at ho HO
      have SO := hid (fun w1 (k1 : Kept (fun _ => False) wr w1) => sortN _ (L.map (itS s)) w1 w.heap.size (by rw [List.length_map]; exact own_plain ho k1) (by rw [List.length_map]; omega))
      clear ho hv he
      go_wp2_with fail
      refine (SO.out _ (Kept.refl _ _)).mono ?_
      rintro e w5 ⟨rfl, m, p1, p2, o5, k5⟩
      have P1 := hid p1
      have P2 := hid p2
      have O5 := hid o5
      have X5 := hid (HE.out.other k5 (fun b hF hb => by have := FL.out b hF; have := (HO.out.lt b hb).1; omega) (fun b hb => (HO.out.lt b hb).1))
      clear p1 p2 o5 k5 SO
      go_wp2
      go_ret
      exact ⟨_, m, rfl, O5.out, P1.out, P2.out, X5.out⟩


theorem row_nat (l : List Nat) : row int1 (l.map fun (c : Nat) => (c : Int)) = row nat1 l := by
  induction l with
  | nil => rfl
  | cons x r ih => simp only [List.map_cons, row] at ih ⊢; rw [ih]; rfl
section
variable {F : Nat → Prop} {w : World} {pa pm : Nat} {s : St} {t u : Tr} {L M : List (Nat × Int × Int)}
theorem nd_its : ∀ {t : Tr} {up q : Int}, Vp (LS s) (hasS s) up q t → its s t = t.nodes.map (itS s) ∧ ∀ n ∈ t.nodes, LS s n = true ∧ ∃ i : Nat, hasS s n 6 = ((i : Nat) : Int) ∧ LS s i = true
  | lf, _, _, _ => ⟨rfl, fun n hn => by simp [nodes] at hn⟩
  | nd n i k r, up, q, ⟨⟨h1, h2, _, _, _, _, h7, _⟩, hk, hr⟩ => by
    obtain ⟨e1, f1⟩ := nd_its hk
    obtain ⟨e2, f2⟩ := nd_its hr
    refine ⟨?_, fun m hm => ?_⟩
    · have hi : itS s n = i := by unfold itS; rw [h7]; rfl
      simp only [its, items, nodes, List.map_cons, List.map_append] at e1 e2 ⊢
      rw [hi, e1, e2]
    · simp only [nodes, List.mem_cons, List.mem_append] at hm
      rcases hm with rfl | hm | hm
      · exact ⟨h1, i, h7, h2⟩
      · exact f1 m hm
      · exact f2 m hm
theorem hh_cell (h : Inv s t u L M) : ∀ n ∈ t.nodes, cellS s (n : Int) 6 = (itS s n : Int) := fun n hn => by
  obtain ⟨a, i, b, c⟩ := (nd_its h.a.hp.vp).2 n hn
  have hi : itS s n = i := by unfold itS; rw [b]; rfl
  rw [hi]
  exact cell_nat (j := 6) h.ok a (by decide) b c
theorem nodesN (h : Inv s t u L M) (hl : L.length ≤ 1000) (hi : IsA w F pa pm s) (hs : s.steps ≤ 90000000) :
    Calls Tryz.prog 54 #[.pointer (some ⟨pa, 0, none⟩), .int .i64 (headr t)] w fun e w' => ∃ v D k, e = .returned v ∧ w'.ownsRow w.heap.size 3 1 v D.length (row nat1 D) ∧ D.Perm t.nodes ∧ k ≤ 51 + 50 * L.length ∧ Ex F w w' pa pm (tk s k) := by
  have hz := h.a.len
  refine (pnodesT h.a.hp (by omega) h.ok hi (by omega)).mono ?_
  rintro e w1 ⟨v, P, k, rfl, o, p, hk, a1⟩
  refine ⟨v, P, k, rfl, ?_, p, by omega, a1⟩
  unfold Own nd1 at o
  rw [row_nat] at o
  simpa using o
set_option maxHeartbeats 1000000 in
/-- All -/
theorem allC (h : Inv s t u L M) (hl : L.length ≤ 1000) (hi : IsA w F pa pm s) (hs : s.steps ≤ 80000000) :
    Calls Tryz.prog 31 #[.pointer (some ⟨pa, 0, none⟩), .int .i64 (headr t)] w fun e w' => ∃ v m k, e = .returned v ∧ w'.ownsRow w.heap.size 3 1 v m.length (row nat1 m) ∧ m.Perm (its s t) ∧ m.Pairwise (fun a b => a ≤ b) ∧ k ≤ 51 + 51 * L.length ∧ Ex F w w' pa pm (tk s k) := by
  have N := hid (nodesN h hl hi (by omega))
  have FL := hid hi.lt
  have HC := hid (hh_cell h)
  have hz := h.a.len
  have HM := hid (nd_its h.a.hp.vp).1
  have HNS : Hid (t.nodes.length = L.length) := hid (by rw [← hz, ← List.length_map (f := itS s), ← HM.out]; show t.items.length = _; exact size_items t)
  clear h hi
  generalize headr t = r0 at *
  go_enter Tryz.func31, Tryz.ntmps31
  go_wp2_with fail
  refine N.out.mono ?_
  rintro e w1 ⟨v1, D, k, rfl, o1, p1, hk, h1⟩
  have hL : D.length = L.length := by rw [p1.length_eq]; exact HNS.out
  have I := hid (itemsT h1.is o1 (fun b hb q => by have := FL.out b q; have := (o1.lt b hb).1; omega) (fun n hn => (HC.out n (p1.mem_iff.1 hn) : cellS s (n : Int) 6 = (itS s n : Int))) (by omega) (by show s.steps + k ≤ _; omega))
  have H1 := hid h1
  have P1 := hid (show (D.map (itS s)).Perm (its s t) by rw [HM.out]; exact p1.map _)
  obtain ⟨va1, vc1, rfl⟩ := own_form o1
  have HL := hid hL
  clear N o1 p1 h1 hL hz
  go_wp2_with fail
  refine I.out.mono ?_
  rintro e w2 ⟨v, m, rfl, o2, p2, q2, h2⟩
  have O2 := hid o2
  have P2 := hid (List.Perm.trans (show m.Perm (D.map (itS s)) from p2) P1.out)
  have Q2 := hid q2
  have H2 := hid (show Ex F w w2 pa pm (tk s (k + D.length)) by rw [← tk_tk]; exact H1.out.stay h2.is h2.kept)
  have S1 := hid H1.out.kept.size
  obtain ⟨va, vc, rfl⟩ := own_form o2
  clear o2 p2 q2 h2 I
  go_wp2
  go_ret
  exact ⟨_, m, k + D.length, rfl, own_base O2.out S1.out, P2.out, Q2.out, by have := HL.out; omega, H2.out⟩
end
end Go.Proofs.YthfdooigljkfiaaGreat
