/- Leftist heaps: nodes, items, All. -/
import Derived.Test.YtnkpopeahmjodaaGreatTw
import Derived.Test.YtnkpopeahmjodaaGreatSo
import Derived.Deep.Onto
namespace Go.Proofs.YtnkpopeahmjodaaGreat
open Go.ChangeShapes Go.WideShapes Go.ChangeAt Go.RowKit
open Tr

/-- what is appended -/
def Src (B : Nat) (w : World) (x : Value) (l : List Nat) : Prop :=
  (x = .slice none 0 0 ∧ l = []) ∨ ∃ b off c, x = .slice (some ⟨b, off, none⟩) l.length c ∧ b < B ∧ ∀ (i x : Nat), l[i]? = some x → w.cell? ⟨b, off + i, none⟩ = some (.int .i64 (x : Int))
theorem nat1_at : ∀ (l : List Nat) (j : Nat), (row nat1 l)[j]? = (l[j]?).map fun x => .int .i64 (x : Int)
  | [], j => by simp [row]
  | x :: r, 0 => by simp [row, nat1]
  | x :: r, j + 1 => by simp [row, nat1]; simpa using nat1_at r j
theorem nat1_row_len (l : List Nat) : (row nat1 l).length = l.length := by rw [row_length nat1_len, Nat.mul_one]
theorem Src.kept {B : Nat} {w w' : World} {v : Value} {l : List Nat} (h : Src B w v l) (k : Below B w w') : Src B w' v l := by
  rcases h with h | ⟨b, off, c, e, h1, h2⟩
  · exact Or.inl h
  · exact Or.inr ⟨b, off, c, e, h1, fun i x hx => (k.cell (p := ⟨b, _, none⟩) h1).trans (h2 i x hx)⟩
theorem Src.one (w : World) (c : Nat) : Src (w.heap.size + 1) (w.alloc (.cells #[.int .i64 (c : Int)] 3)) (.slice (some ⟨w.heap.size, 0, none⟩) 1 1) [c] := by
  refine Or.inr ⟨w.heap.size, 0, 1, rfl, by omega, fun i x hx => ?_⟩
  have hi : i = 0 := by have := (List.getElem?_eq_some_iff.1 hx).1; simpa using this
  subst hi
  simp at hx
  subst hx
  exact blk_cell (heap_alloc_new w (.cells #[.int .i64 (c : Int)] 3)) rfl
theorem append_src {base B : Nat} (w : World) (ty : TypeId) (v x : Value) (n : Nat) (xs : List Value) (l : List Nat) (hown : w.ownsRow base 3 1 v n xs) (hx : Src B w x l) (h63 : n + l.length ≤ 1000000) (hbase : base ≤ w.heap.size) :
    ∃ v' w', (Builtin.append_ #[52, 52] ty #[v, x]).run Tryz.prog w = .ok v' w' ∧ w'.ownsRow base 3 1 v' (n + l.length) (xs ++ row nat1 l) ∧ w.grownBy w' v.ownBlock := by
  obtain ⟨i, hi, h0, h1, h2⟩ := info_parts info3
  rcases hx with ⟨rfl, rfl⟩ | ⟨b, off, c, rfl, hb, hc⟩
  · exact ⟨v, w, run_append_owned_none (P := Tryz.prog) w base 52 ty 3 i 1 Tryz.underlying52 hi v n xs hown, by simpa [row] using hown, ⟨rfl, rfl, rfl, Nat.le_refl _, fun _ _ _ => rfl⟩⟩
  · obtain ⟨v', w', hr, q1, q2, _⟩ := run_append_own (P := Tryz.prog) w base 52 ty 3 i _ 1 8 Tryz.underlying52 hi h0 h1 h2 rfl (by decide) v n xs hown ⟨b, off, none⟩ l.length c (row nat1 l) (by rw [nat1_row_len, Nat.mul_one]) (fun j u hu => by
      rw [nat1_at] at hu
      cases hj : l[j]? with
      | none => simp [hj] at hu
      | some y =>
        simp [hj] at hu
        subst hu
        have := hc j y hj
        rwa [show (⟨b, off, none⟩ : Addr).add j = ⟨b, off + j, none⟩ by unfold Addr.add; split <;> simp_all]) (row_one nat1_one l) (by simp [maxLen]; omega) (by omega) hbase
    exact ⟨v', w', hr, q1, q2⟩
theorem step_append_src {ops : Array Oper} {o : Oper} {a : Act} {w : World} {K : Act → World → Prop} {Q : Exit → Act → World → Prop} {E : Prop} (hgd : o.guard = none) (s y : Operand)
    (ho : o.op = .call { callee := .builtin .append, args := #[s, y], argTypes := #[52, 52] })
    (base B : Nat) (v x : Value) (n : Nat) (xs : List Value) (l : List Nat) (hs : a.eval s = v) (hy : a.eval y = x) (hown : w.ownsRow base 3 1 v n xs) (hx : Src B w x l)
    (h63 : n + l.length ≤ 1000000) (hbase : base ≤ w.heap.size)
    (h : ∀ v' w', w'.ownsRow base 3 1 v' (n + l.length) (xs ++ row nat1 l) → w.grownBy w' v.ownBlock → K (a.put o.dst v') w') :
    if Region.wanted o (yielded ops a.tmps) = true then Oper.wp Tryz.prog o a w K Q else E := by
  have hw : Region.wanted o (yielded ops a.tmps) = true := by simp [Region.wanted, hgd]
  rw [if_pos hw]
  obtain ⟨v', w', hr, h2, h3⟩ := append_src w o.type v x n xs l hown hx h63 hbase
  unfold Oper.wp execOp
  simp only [ho, resolve, invoke, builtin, Sem.run_bind, Sem.run_pure, Result.andThen_ok, List.map_toArray, List.map_cons, List.map_nil, hs, hy, hr]
  exact h v' w' h2 h3
theorem wpList_append_src {ops : Array Oper} {rest : List Oper} {o : Oper} {a : Act} {w : World} {Q : Exit → Act → World → Prop} (hgd : o.guard = none) (s y : Operand)
    (ho : o.op = .call { callee := .builtin .append, args := #[s, y], argTypes := #[52, 52] })
    (base B : Nat) (v x : Value) (n : Nat) (xs : List Value) (l : List Nat) (hs : a.eval s = v) (hy : a.eval y = x) (hown : w.ownsRow base 3 1 v n xs) (hx : Src B w x l)
    (h63 : n + l.length ≤ 1000000) (hbase : base ≤ w.heap.size)
    (h : ∀ v' w', w'.ownsRow base 3 1 v' (n + l.length) (xs ++ row nat1 l) → w.grownBy w' v.ownBlock → wpList Tryz.prog ops Q rest (a.put o.dst v') w') : wpList Tryz.prog ops Q (o :: rest) a w := by
  refine wpList_plain hgd fun _ hK => ?_
  obtain ⟨v', w', hr, h2, h3⟩ := append_src w o.type v x n xs l hown hx h63 hbase
  unfold Oper.wp execOp
  simp only [ho, resolve, invoke, builtin, Sem.run_bind, Sem.run_pure, Result.andThen_ok, List.map_toArray, List.map_cons, List.map_nil, hs, hy, hr]
  exact hK _ _ (h v' w' h2 h3)

/-- a root's cell -/
def rn : Tr → Nat
  | lf => 0
  | nd n _ _ _ => n
/-- trees that are yet to be gone through -/
def Fo (s : St) (q : List Tr) : Prop := ∀ t ∈ q, t ≠ lf ∧ Hp (LS s) (hasS s) t ∧ t.cells.Nodup
/-- the trees of a row that are some -/
def so (t : Tr) : List Tr := match t with
  | lf => []
  | nd n i l r => [nd n i l r]
theorem so_nodes (t : Tr) : (so t).flatMap Tr.nodes = t.nodes := by cases t <;> simp [so, Tr.nodes]
theorem so_rn (t : Tr) : (so t).map rn = match t with | lf => [] | nd n _ _ _ => [n] := by cases t <;> rfl
/-- what is found, how far: the rest is what hangs on those that are found and not yet gone through -/
structure Bf (s : St) (t : Tr) (l : List Nat) (a : Nat) (q : List Tr) : Prop where
  le : a ≤ l.length
  rest : l.drop a = q.map rn
  all : (l.take a ++ q.flatMap Tr.nodes).Perm t.nodes
  fo : Fo s q
theorem fo_len : ∀ (q : List Tr), (∀ t ∈ q, t ≠ lf) → q.length ≤ (q.flatMap Tr.nodes).length
  | [], _ => Nat.le_refl _
  | t :: q, h => by
    have := fo_len q fun t ht => h t (List.mem_cons_of_mem _ ht)
    cases t with
    | lf => exact absurd rfl (h lf (by simp))
    | nd n i l r => simp [Tr.nodes]; simp at this; omega
theorem Bf.len {s : St} {t : Tr} {l : List Nat} {a : Nat} {q : List Tr} (h : Bf s t l a q) : l.length ≤ t.size := by
  have h1 := h.all.length_eq
  have h2 := fo_len q fun t ht => (h.fo t ht).1
  have h3 : (l.drop a).length = q.length := by rw [h.rest, List.length_map]
  have := h.le
  rw [size_nodes, List.length_append, List.length_take, Nat.min_eq_left this] at h1
  rw [List.length_drop] at h3
  omega
theorem Bf.start {s : St} {n i : Nat} {l r : Tr} (h : Gd s (nd n i l r)) : Bf s (nd n i l r) [n] 0 [nd n i l r] :=
  ⟨Nat.zero_le _, rfl, by simp, fun t ht => by simp at ht; subst ht; exact ⟨by simp, h.hp, h.nd⟩⟩
/-- one more is gone through -/
theorem Bf.step {s : St} {t : Tr} {l : List Nat} {a : Nat} {q : List Tr} (h : Bf s t l a q) (ha : a < l.length) : ∃ n i c d q', q = nd n i c d :: q' ∧ l[a]? = some n ∧ Hp (LS s) (hasS s) (nd n i c d) ∧ (nd n i c d).cells.Nodup ∧
    Bf s t (l ++ ((so c).map rn ++ (so d).map rn)) (a + 1) (q' ++ (so c ++ so d)) := by
  have hr := h.rest
  rw [List.drop_eq_getElem_cons ha] at hr
  cases q with
  | nil => simp at hr; omega
  | cons x q' =>
    obtain ⟨f1, f2, f3⟩ := h.fo x (by simp)
    cases x with
    | lf => exact absurd rfl f1
    | nd n i c d =>
      simp only [List.map_cons, List.cons.injEq] at hr
      obtain ⟨e1, e2⟩ := hr
      have e1' : l[a]? = some n := by rw [List.getElem?_eq_getElem ha, e1]; rfl
      refine ⟨n, i, c, d, q', rfl, e1', f2, f3, by simp; omega, ?_, ?_, ?_⟩
      · rw [List.drop_append_of_le_length (by omega), e2, List.map_append, List.map_append]
      · rw [List.take_append_of_le_length (by omega), List.flatMap_append, List.flatMap_append, so_nodes, so_nodes]
        have e3 : l.take (a + 1) = l.take a ++ [n] := by rw [List.take_add_one, e1']; rfl
        rw [e3]
        refine List.Perm.trans ?_ h.all
        simp only [List.flatMap_cons, Tr.nodes]
        rw [List.perm_iff_count]
        intro z
        simp only [List.count_append, List.count_cons, List.count_nil]
        omega
      · intro y hy
        rw [List.mem_append, List.mem_append] at hy
        obtain ⟨_, _, _, g1, g2⟩ := f2
        simp only [Tr.cells, List.nodup_cons, List.nodup_append] at f3
        rcases hy with hy | hy | hy
        · exact h.fo y (by simp [hy])
        · cases c with
          | lf => simp [so] at hy
          | nd _ _ _ _ => simp [so] at hy; subst hy; exact ⟨by simp, g1, f3.2.2.1⟩
        · cases d with
          | lf => simp [so] at hy
          | nd _ _ _ _ => simp [so] at hy; subst hy; exact ⟨by simp, g2, f3.2.2.2.1⟩

set_option maxHeartbeats 2000000 in
theorem nodesT_none {F : Nat → Prop} {w0 w : World} {pa pm : Nat} {s : St} (h : Ex F w0 w pa pm s) (hs : s.steps ≤ 90000000) :
    Calls Tryz.prog 43 #[.pointer (some ⟨pa, 0, none⟩), .int .i64 (-1)] w fun e w' => e = .returned (.slice none 0 0) ∧ ∃ k, k ≤ 3 ∧ Ex F w0 w' pa pm (tk s k) := by
  have R := hid (rootT (-1) h (by omega))
  rw [root_none] at R
  clear h
  go_enter Tryz.func43, Tryz.ntmps43
  go_wp2_with fail
  refine R.out.mono ?_
  rintro e w1 ⟨rfl, k, hk, h1⟩
  have H1 := hid h1
  clear h1 R
  go_wp2
  go_ret
  exact ⟨rfl, k, hk, H1.out⟩

theorem kept_of_grown {w w' : World} {row : Option Nat} (h : w.grownBy w' row) : Kept (fun k => row = some k) w w' := ⟨h.os, h.tape, h.output, h.size, fun k hk hn => h.block k hk fun e => hn e.symm⟩
set_option maxHeartbeats 4000000 in
theorem nodesT {F : Nat → Prop} {w : World} {pa pm : Nat} {s : St} {n i : Nat} {l r : Tr} (g : Gd s (nd n i l r)) (h : IsA w F pa pm s) (hz : (nd n i l r).size ≤ 1000) (hs : s.steps ≤ 90000000) :
    Calls Tryz.prog 43 #[.pointer (some ⟨pa, 0, none⟩), .int .i64 (n : Int)] w fun e w' => ∃ v L k, e = .returned v ∧ w'.ownsRow w.heap.size 3 1 v L.length (row nat1 L) ∧ L.Perm (nd n i l r).nodes ∧ k ≤ 3 + 4 * (nd n i l r).size ∧ Ex F w w' pa pm (tk s k) := by
  have ok := h.ok
  have R := hid (rootT (n : Int) (Ex.start h) (by omega))
  rw [root_tree ok g.hp g.up] at R
  have BS := hid (Bf.start g)
  have OK := hid ok
  have FL := hid h.lt
  clear h g ok
  generalize hsz : (nd n i l r).size = z at *
  have HZ := hid hsz
  clear hsz
  have hn1 : ((n : Int) == -1) = false := by simp
  have hn2 : ¬ (n : Int) = -1 := by omega
  go_enter Tryz.func43, Tryz.ntmps43
  go_wp2_with fail
  refine R.out.mono ?_
  rintro e w1 ⟨rfl, k1, hk1, h1⟩
  have H1 := hid h1
  clear h1 R
  go_wp2_with fail
  go_loopw [5, 6, 7, 8] (fun lv av _ _ wr => ∃ (L : List Nat) (a k : Nat) (q : List Tr), av = .int .i64 a ∧ wr.ownsRow w.heap.size 3 1 lv L.length (row nat1 L) ∧ Bf s (nd n i l r) L a q ∧ k ≤ 3 + 4 * a ∧ Ex F w wr pa pm (tk s k)) (fun _ a _ _ _ => z - (intOf a).toNat)
  case atStart =>
    refine ⟨[n], 0, k1, [nd n i l r], rfl, ?_, BS.out, by omega, H1.out.plain ((Kept.refl _ _).alloc _)⟩
    exact World.ownsRow_lit (base := w.heap.size) (e := 3) (size := 1) w1 #[.int .i64 (n : Int)] 1 H1.out.kept.size (by simp [maxLen]) rfl
  case round =>
    obtain ⟨L, a, k, q, rfl, ho, hb, hk, he⟩ := hrel
    have hLz := hb.len
    rw [HZ.out] at hLz
    clear H1 BS
    by_cases hlt : a < L.length
    · obtain ⟨m, j, c, d, q', hq, hm, hhp, hnd, hb'⟩ := hb.step hlt
      obtain ⟨g, cap, hlv, hg, _, hcell⟩ := own1_at ho nat1_len hm
      have CH := hid (childrenT (m : Int) (Ex.start he.is) (by show s.steps + k ≤ _; omega))
      rw [show lcS (tk s k) (m : Int) = c.root from (lc_tree OK.out hhp : lcS s (m : Int) = c.root), show rcS (tk s k) (m : Int) = d.root from (rc_tree OK.out hhp hnd : rcS s (m : Int) = d.root)] at CH
      have HE := hid he
      have HO := hid ho
      have hB := hid hb'
      have hlen1 : L.length ≤ 1000 := by omega
      have hlt' : (a : Int) < (L.length : Int) := by omega
      have hLz' := hb'.len
      rw [HZ.out] at hLz'
      have HLZ := hid hLz'
      clear he ho hb hb' hhp hnd hm hq hLz'
      subst hlv
      replace hcell : wr.cell? ⟨g, a, none⟩ = some (.int .i64 (m : Int)) := hcell
      go_wp2_with fail
      refine CH.out.mono ?_
      rintro e w4 ⟨rfl, h4⟩
      have H4 := hid (HE.out.stay h4.is h4.kept)
      have ho4 : w4.ownsRow w.heap.size 3 1 (.slice (some ⟨g, 0, none⟩) L.length cap) L.length (row nat1 L) := own_kept HO.out h4.kept (fun b hb q => by have := FL.out b q; have := (HO.out.lt b hb).1; omega)
      have O4 := hid ho4
      have S4 := hid (Nat.le_trans HE.out.kept.size h4.kept.size)
      clear h4 CH HE HO ho4 hcell hg
      cases c with
      | lf =>
        cases d with
        | lf =>
          simp only [root]
          go_wp2
          go_roundw
          case rel => exact ⟨L, a + 1, k + 4, q', by go_num, by exact O4.out, by have := hB.out; simpa [so, rn] using this, by omega, H4.out⟩
          case measure => simp [intOf]; omega
        | nd dn di dl dr =>
          simp only [root]
          have d1 : ((dn : Int) == -1) = false := by simp
          have d2 : ¬ (dn : Int) = -1 := by omega
          go_wp2_with (at_builtin; refine wpList_append_src rfl (.tmp 38) (.tmp 40) rfl w.heap.size _ _ _ (L.length) _ [dn] rfl rfl (World.ownsRow.alloc O4.out _) (Src.one _ _) (by simp; omega) (by have := S4.out; simp; omega) ?_; intro v5 w5 o5 g5; have O5 := hid o5; have X5 := hid ((H4.out.plain ((Kept.refl _ _).alloc _)).other (kept_of_grown g5) (fun b hF hb => by have := FL.out b hF; have := (O4.out.lt b hb).1; omega) (fun b hb => (O4.out.lt b hb).1)); have S5 := hid (Nat.le_trans S4.out (Nat.le_trans (by simp) g5.size)); obtain ⟨va5, vc5, rfl⟩ := own_form o5; clear o5 g5)
          go_wp2
          go_roundw
          case rel => exact ⟨L ++ [dn], a + 1, k + 4, q' ++ [nd dn di dl dr], by go_num, by simpa [row_append] using O5.out, by have := hB.out; simpa [so, rn] using this, by omega, X5.out⟩
          case measure => simp [intOf]; omega
      | nd cn ci cl cr =>
        have c1 : ((cn : Int) == -1) = false := by simp
        have c2 : ¬ (cn : Int) = -1 := by omega
        cases d with
        | lf =>
          simp only [root]
          go_wp2_with (at_builtin; refine wpList_append_src rfl (.tmp 32) (.tmp 34) rfl w.heap.size _ _ _ (L.length) _ [cn] rfl rfl (World.ownsRow.alloc O4.out _) (Src.one _ _) (by simp; omega) (by have := S4.out; simp; omega) ?_; intro v5 w5 o5 g5; have O5 := hid o5; have X5 := hid ((H4.out.plain ((Kept.refl _ _).alloc _)).other (kept_of_grown g5) (fun b hF hb => by have := FL.out b hF; have := (O4.out.lt b hb).1; omega) (fun b hb => (O4.out.lt b hb).1)); have S5 := hid (Nat.le_trans S4.out (Nat.le_trans (by simp) g5.size)); obtain ⟨va5, vc5, rfl⟩ := own_form o5; clear o5 g5)
          go_wp2
          go_roundw
          case rel => exact ⟨L ++ [cn], a + 1, k + 4, q' ++ [nd cn ci cl cr], by go_num, by simpa [row_append] using O5.out, by have := hB.out; simpa [so, rn] using this, by omega, X5.out⟩
          case measure => simp [intOf]; omega
        | nd dn di dl dr =>
          simp only [root]
          have d1 : ((dn : Int) == -1) = false := by simp
          have d2 : ¬ (dn : Int) = -1 := by omega
          go_wp2_with (at_builtin; first | ( refine wpList_append_src rfl (.tmp 32) (.tmp 34) rfl w.heap.size _ _ _ (L.length) _ [cn] rfl rfl (World.ownsRow.alloc O4.out _) (Src.one _ _) (by simp; omega) (by have := S4.out; simp; omega) ?_; intro v5 w5 o5 g5; have O5 := hid o5; have X5 := hid ((H4.out.plain ((Kept.refl _ _).alloc _)).other (kept_of_grown g5) (fun b hF hb => by have := FL.out b hF; have := (O4.out.lt b hb).1; omega) (fun b hb => (O4.out.lt b hb).1)); have S5 := hid (Nat.le_trans S4.out (Nat.le_trans (by simp) g5.size)); obtain ⟨va5, vc5, rfl⟩ := own_form o5; clear o5 g5) | (refine wpList_append_src rfl (.tmp 38) (.tmp 40) rfl w.heap.size _ _ _ (L.length + [cn].length) _ [dn] rfl rfl (World.ownsRow.alloc O5.out _) (Src.one _ _) (by simp; omega) (by have := S5.out; simp; omega) ?_; intro v6 w6 o6 g6; have O6 := hid o6; have X6 := hid ((X5.out.plain ((Kept.refl _ _).alloc _)).other (kept_of_grown g6) (fun b hF hb => by have := FL.out b hF; have := (O5.out.lt b hb).1; omega) (fun b hb => (O5.out.lt b hb).1)); have S6 := hid (Nat.le_trans S5.out (Nat.le_trans (by simp) g6.size)); obtain ⟨va6, vc6, rfl⟩ := own_form o6; clear o6 g6))
          go_wp2
          go_roundw
          case rel => exact ⟨L ++ [cn, dn], a + 1, k + 4, q' ++ [nd cn ci cl cr, nd dn di dl dr], by go_num, by rw [show L ++ [cn, dn] = (L ++ [cn]) ++ [dn] by simp, List.length_append, List.length_append, row_append, row_append]; exact O6.out, by have := hB.out; simpa [so, rn] using this, by omega, X6.out⟩
          case measure => simp [intOf]; omega
    · have hge : decide ((a : Int) < (L.length : Int)) = false := by simp; omega
      have HE := hid he
      have HO := hid ho
      have hq : q = [] := by
        have := hb.rest
        rw [List.drop_eq_nil_of_le (by omega)] at this
        cases q with
        | nil => rfl
        | cons x y => simp at this
      have HP := hid (show L.Perm (nd n i l r).nodes by
        have := hb.all
        rw [hq, List.take_of_length_le (by omega)] at this
        simpa using this)
      have hk' : k ≤ 3 + 4 * z := by have := hb.le; omega
      obtain ⟨va, vc, rfl⟩ := own_form ho
      clear he ho hb hq
      go_wp2
      go_ret
      exact ⟨_, L, k, rfl, HO.out, HP.out, hk', HE.out⟩

/-- a row that lies above a base lies above a lower one -/
theorem own_base {w : World} {b b' : Nat} {e : TypeId} {s n : Nat} {v : Value} {xs : List Value} (h : w.ownsRow b e s v n xs) (hb : b' ≤ b) : w.ownsRow b' e s v n xs := by
  refine ⟨h.1, ?_⟩
  rcases h.2 with h' | ⟨g, cap, cur, rfl, hb', r⟩
  · exact Or.inl h'
  · exact Or.inr ⟨g, cap, cur, rfl, by omega, r⟩
/-- which item a node has -/
def itS (s : St) (n : Nat) : Nat := (hasS s n 6).toNat
theorem items_map {s : St} : ∀ {t : Tr}, Hp (LS s) (hasS s) t → t.items = t.nodes.map (itS s)
  | lf, _ => rfl
  | nd n i l r, h => by
    obtain ⟨_, ⟨_, _, _, _, b5, _⟩, _, h1, h2⟩ := h
    simp only [Tr.items, Tr.nodes, List.map_cons, List.map_append, items_map h1, items_map h2]
    congr 1
    unfold itS
    rw [b5]; simp
theorem it_cell {s : St} (ok : Ok s) : ∀ {t : Tr}, Hp (LS s) (hasS s) t → ∀ n ∈ t.nodes, cellS s (n : Int) 6 = (itS s n : Int)
  | lf, _, n, h => by simp [Tr.nodes] at h
  | nd m i l r, h, n, hn => by
    simp only [Tr.nodes, List.mem_cons, List.mem_append] at hn
    rcases hn with rfl | hn | hn
    · rw [it_tree ok h]
      obtain ⟨_, ⟨_, _, _, _, b5, _⟩, _⟩ := h
      unfold itS
      rw [b5]; simp
    · exact it_cell ok h.2.2.2.1 n hn
    · exact it_cell ok h.2.2.2.2 n hn

set_option maxHeartbeats 4000000 in
theorem itemsT {F : Nat → Prop} {w : World} {pa pm base : Nat} {s : St} {v : Value} {L : List Nat} (h : IsA w F pa pm s) (hv : w.ownsRow base 3 1 v L.length (row nat1 L)) (hF : ∀ b, v.ownBlock = some b → ¬ F b) (hc : ∀ n ∈ L, cellS s (n : Int) 6 = (itS s n : Int)) (hz : L.length ≤ 1000) (hs : s.steps ≤ 90000000) :
    Calls Tryz.prog 50 #[.pointer (some ⟨pa, 0, none⟩), v] w fun e w' => ∃ v' m, e = .returned v' ∧ w'.ownsRow w.heap.size 3 1 v' m.length (row nat1 m) ∧ m.Perm (L.map (itS s)) ∧ m.Pairwise (fun a b => a ≤ b) ∧ Ex F w w' pa pm (tk s L.length) := by
  have HV := hid hv
  have HC := hid hc
  have HF := hid hF
  have FL := hid h.lt
  have HS := hid (Ex.start h)
  obtain ⟨va, vc, rfl⟩ := own_form hv
  have VB := hid (fun b hb => (hv.lt b hb).2)
  clear hv hc hF h
  go_enter Tryz.func50, Tryz.ntmps50
  go_wp2_with fail
  go_loopw [5, 7, 12] (fun tv _ iv wr => ∃ (a : Nat), iv = .int .i64 a ∧ a ≤ L.length ∧ wr.ownsRow w.heap.size 3 1 tv a (row nat1 ((L.take a).map (itS s))) ∧ wr.ownsRow base 3 1 (.slice va L.length vc) L.length (row nat1 L) ∧ Ex F w wr pa pm (tk s a)) (fun _ _ i _ => L.length - (intOf i).toNat)
  case atStart => exact ⟨0, rfl, Nat.zero_le _, World.ownsRow_nil _ _ _ _, HV.out, HS.out⟩
  case round =>
    obtain ⟨a, rfl, ha, ho, hv, he⟩ := hrel
    clear HS HV
    have HO := hid ho
    have HV := hid hv
    have HE := hid he
    obtain ⟨ta, tc, rfl⟩ := own_form ho
    by_cases hlt : a < L.length
    · have hx : L[a]? = some L[a] := List.getElem?_eq_getElem hlt
      obtain ⟨g, cap, e, hg, _, hcell⟩ := own1_at hv nat1_len hx
      obtain rfl : va = some ⟨g, 0, none⟩ := by injection e
      have CE := hid (cellT (L[a] : Int) 6 (Ex.start he.is) (by show s.steps + a ≤ _; omega))
      rw [show cellS (tk s a) (L[a] : Int) 6 = (itS s L[a] : Int) from HC.out _ (List.getElem_mem hlt)] at CE
      have ET := hid (show (L.take (a + 1)).map (itS s) = (L.take a).map (itS s) ++ [itS s L[a]] by rw [List.take_add_one, List.map_append, hx]; rfl)
      generalize L[a] = x at *
      generalize itS s x = y at *
      replace hcell : wr.cell? ⟨g, a, none⟩ = some (.int .i64 (x : Int)) := hcell
      have hlt' : (a : Int) < (L.length : Int) := by omega
      clear hx ho hv he e
      go_wp2_with fail
      refine CE.out.mono ?_
      rintro e w4 ⟨rfl, h4⟩
      have O4 := hid (own_kept HO.out h4.kept (fun b hb q => by have := FL.out b q; have := (HO.out.lt b hb).1; omega))
      have V4 := hid (own_kept HV.out h4.kept (fun b hb => HF.out b hb))
      have X4 := hid (HE.out.stay h4.is h4.kept)
      have S4 := hid (Nat.le_trans HE.out.kept.size h4.kept.size)
      have hg4 : g < w4.heap.size := Nat.lt_of_lt_of_le hg h4.kept.size
      clear h4 CE HE HO HV hcell hg
      go_wp2_with (at_builtin; refine wpList_append_src rfl (.tmp 16) (.tmp 20) rfl w.heap.size _ _ _ a _ [y] rfl rfl (World.ownsRow.alloc O4.out _) (Src.one _ _) (by simp; omega) (by have := S4.out; simp; omega) ?_; intro v5 w5 o5 g5; have O5 := hid o5; have X5 := hid ((X4.out.plain ((Kept.refl _ _).alloc _)).other (kept_of_grown g5) (fun b hF hb => by have := FL.out b hF; have := (O4.out.lt b hb).1; omega) (fun b hb => (O4.out.lt b hb).1)); have V5 := hid (own_kept (own_plain V4.out ((Kept.refl _ _).alloc _)) (kept_of_grown g5) (fun b hb q => by have := VB.out b hb; have := (O4.out.lt b q).1; omega)); obtain ⟨va5, vc5, rfl⟩ := own_form o5; clear o5 g5)
      go_wp2
      go_roundw
      case rel => exact ⟨a + 1, by go_num, by omega, by rw [ET.out, row_append]; exact O5.out, V5.out, X5.out⟩
      case measure => simp [intOf]; omega
    · obtain rfl : a = L.length := by omega
      have hge : decide ((L.length : Int) < (L.length : Int)) = false := by simp
      rw [List.take_of_length_le (Nat.le_refl _)] at ho HO
      have SO := hid (fun w1 (k1 : Kept (fun _ => False) wr w1) => sortN _ (L.map (itS s)) w1 w.heap.size (by rw [List.length_map]; exact own_plain ho k1) (by rw [List.length_map]; omega))
      clear ho hv he
      go_wp2_with fail
      refine (SO.out _ (Kept.refl _ _)).mono ?_
      rintro e w5 ⟨rfl, m, p1, p2, o5, k5⟩
      have P1 := hid p1
      have P2 := hid p2
      have O5 := hid o5
      have X5 := hid (HE.out.other k5 (fun b hF hb => by have := FL.out b hF; have := (HO.out.lt b hb).1; omega) (fun b hb => (HO.out.lt b hb).1))
      clear p1 p2 o5 k5 SO
      go_wp2
      go_ret
      exact ⟨_, m, rfl, O5.out, P1.out, P2.out, X5.out⟩

set_option maxHeartbeats 1000000 in
/-- All -/
theorem allT {F : Nat → Prop} {w : World} {pa pm : Nat} {s : St} {t : Tr} (g : Gd s t) (h : IsA w F pa pm s) (hz : t.size ≤ 1000) (hs : s.steps ≤ 80000000) :
    Calls Tryz.prog 30 #[.pointer (some ⟨pa, 0, none⟩), .int .i64 t.root] w fun e w' => ∃ v m k, e = .returned v ∧ w'.ownsRow w.heap.size 3 1 v m.length (row nat1 m) ∧ m.Perm t.items ∧ m.Pairwise (fun a b => a ≤ b) ∧ k ≤ 3 + 5 * t.size ∧ Ex F w w' pa pm (tk s k) := by
  cases t with
  | lf =>
    have N := hid (nodesT_none (Ex.start h) (by omega))
    have FL := hid h.lt
    clear h
    simp only [root]
    go_enter Tryz.func30, Tryz.ntmps30
    go_wp2_with fail
    refine N.out.mono ?_
    rintro e w1 ⟨rfl, k, hk, h1⟩
    have I := hid (itemsT (L := []) h1.is (World.ownsRow_nil w1 w.heap.size 3 1) (fun b hb => by cases hb) (fun n hn => by cases hn) (by decide) (by show s.steps + k ≤ _; omega))
    have H1 := hid h1
    clear h1 N
    go_wp2_with fail
    refine I.out.mono ?_
    rintro e w2 ⟨v, m, rfl, o2, p2, q2, h2⟩
    obtain rfl : m = [] := by simpa using p2
    have O2 := hid o2
    have H2 := hid (H1.out.stay h2.is h2.kept)
    have S1 := hid H1.out.kept.size
    obtain ⟨va, vc, rfl⟩ := own_form o2
    clear o2 p2 q2 h2 I
    go_wp2
    go_ret
    exact ⟨_, [], k, rfl, own_base O2.out S1.out, .nil, .nil, by omega, H2.out⟩
  | nd n i l r =>
    have N := hid (nodesT g h hz (by omega))
    have FL := hid h.lt
    have G := hid g
    have OK := hid h.ok
    clear h g
    simp only [root]
    generalize hzz : (nd n i l r).size = z at *
    have HZZ := hid hzz
    clear hzz
    go_enter Tryz.func30, Tryz.ntmps30
    go_wp2_with fail
    refine N.out.mono ?_
    rintro e w1 ⟨v1, L, k, rfl, o1, p1, hk, h1⟩
    have hL : L.length = z := by rw [p1.length_eq, size_nodes]; exact HZZ.out
    have I := hid (itemsT h1.is o1 (fun b hb q => by have := FL.out b q; have := (o1.lt b hb).1; omega) (fun n hn => (it_cell OK.out G.out.hp n (p1.mem_iff.1 hn) : cellS s (n : Int) 6 = (itS s n : Int))) (by omega) (by show s.steps + k ≤ _; omega))
    have H1 := hid h1
    have P1 := hid (show (L.map (itS s)).Perm (nd n i l r).items by rw [items_map G.out.hp]; exact p1.map _)
    obtain ⟨va1, vc1, rfl⟩ := own_form o1
    have HL := hid hL
    clear N o1 p1 h1 hL
    go_wp2_with fail
    refine I.out.mono ?_
    rintro e w2 ⟨v, m, rfl, o2, p2, q2, h2⟩
    have O2 := hid o2
    have P2 := hid (List.Perm.trans (show m.Perm (L.map (itS s)) from p2) P1.out)
    have Q2 := hid q2
    have H2 := hid (show Ex F w w2 pa pm (tk s (k + L.length)) by rw [← tk_tk]; exact H1.out.stay h2.is h2.kept)
    have S1 := hid H1.out.kept.size
    obtain ⟨va, vc, rfl⟩ := own_form o2
    clear o2 p2 q2 h2 I
    go_wp2
    go_ret
    exact ⟨_, m, k + L.length, rfl, own_base O2.out S1.out, P2.out, Q2.out, by have := HL.out; omega, H2.out⟩
end Go.Proofs.YtnkpopeahmjodaaGreat
