/- Lists of numbers that lie in memory; two of them appended to a new one; the walk of turned. -/
import Derived.Test.YticpldlckdckdaaAl
import Derived.Deep.Onto
namespace Go.Proofs.Yticpldlckdckdaa
open Go.ChangeShapes Go.WideShapes Go.ChangeAt Go.RowKit

/-- a list that lies in a block of P -/
def Lies (P : Nat → Prop) (w : World) (v : Value) (l : List Nat) : Prop :=
  (v = .slice none 0 0 ∧ l = []) ∨ ∃ b off cap, v = .slice (some ⟨b, off, none⟩) l.length cap ∧ l.length ≤ cap ∧ cap ≤ maxLen ∧ b < w.heap.size ∧ P b ∧ ∀ (i x : Nat), l[i]? = some x → w.cell? ⟨b, off + i, none⟩ = some (.int .i64 (x : Int))

/-- what is appended -/
def Src (B : Nat) (w : World) (x : Value) (l : List Nat) : Prop :=
  (x = .slice none 0 0 ∧ l = []) ∨ ∃ b off c, x = .slice (some ⟨b, off, none⟩) l.length c ∧ b < B ∧ ∀ (i x : Nat), l[i]? = some x → w.cell? ⟨b, off + i, none⟩ = some (.int .i64 (x : Int))

theorem nat1_at : ∀ (l : List Nat) (j : Nat), (row nat1 l)[j]? = (l[j]?).map fun x => .int .i64 (x : Int)
  | [], j => by simp [row]
  | x :: r, 0 => by simp [row, nat1]
  | x :: r, j + 1 => by simp [row, nat1]; simpa using nat1_at r j
theorem nat1_row_len (l : List Nat) : (row nat1 l).length = l.length := by rw [row_length nat1_len, Nat.mul_one]

section
variable {P G : Nat → Prop} {w w' : World} {v : Value} {l : List Nat}
theorem Lies.kept (h : Lies P w v l) (k : Kept G w w') (hd : ∀ b, P b → ¬ G b) : Lies P w' v l := by
  rcases h with h | ⟨b, off, cap, e, h1, h2, h3, h4, h5⟩
  · exact Or.inl h
  · exact Or.inr ⟨b, off, cap, e, h1, h2, Nat.lt_of_lt_of_le h3 k.size, h4, fun i x hx => (k.cell (p := ⟨b, _, none⟩) h3 (hd b h4)).trans (h5 i x hx)⟩
theorem Lies.mono {Q : Nat → Prop} (h : Lies P w v l) (hd : ∀ b, b < w.heap.size → P b → Q b) : Lies Q w v l := by
  rcases h with h | ⟨b, off, cap, e, h1, h2, h3, h4, h5⟩
  · exact Or.inl h
  · exact Or.inr ⟨b, off, cap, e, h1, h2, h3, hd b h3 h4, h5⟩
theorem Lies.of_own {base : Nat} (h : w.ownsRow base 3 1 v l.length (row nat1 l)) (hP : ∀ b, base ≤ b → b < w.heap.size → P b) : Lies P w v l := by
  rcases h.2 with ⟨rfl, h0⟩ | ⟨g, cap, cur, rfl, hb, hg, h1, h2, h3, h4⟩
  · exact Or.inl ⟨rfl, List.eq_nil_of_length_eq_zero h0⟩
  · refine Or.inr ⟨g, 0, cap, rfl, h1, h2, lt_of_block hg, hP g hb (lt_of_block hg), fun i x hx => ?_⟩
    have hi : i < l.length := (List.getElem?_eq_some_iff.1 hx).1
    have := h.cellAt (g := g) (cap := cap) i (by omega)
    rw [nat1_at, hx] at this
    simpa using this
theorem Kept.plain0 (h : Kept (fun _ => False) w w') : Below w.heap.size w w' := h.below (Nat.le_refl _) fun _ e => e.elim
theorem Src.kept {B : Nat} (h : Src B w v l) (k : Below B w w') : Src B w' v l := by
  rcases h with h | ⟨b, off, c, e, h1, h2⟩
  · exact Or.inl h
  · exact Or.inr ⟨b, off, c, e, h1, fun i x hx => (k.cell (p := ⟨b, _, none⟩) h1).trans (h2 i x hx)⟩
theorem Lies.src (h : Lies P w v l) : Src w.heap.size w v l := by
  rcases h with h | ⟨b, off, cap, e, h1, h2, h3, h4, h5⟩
  · exact Or.inl h
  · exact Or.inr ⟨b, off, cap, e, h3, h5⟩
end

theorem append_src {base B : Nat} (w : World) (ty : TypeId) (v x : Value) (n : Nat) (xs : List Value) (l : List Nat) (hown : w.ownsRow base 3 1 v n xs) (hx : Src B w x l) (h63 : n + l.length ≤ 1000000) (hbase : base ≤ w.heap.size) :
    ∃ v' w', (Builtin.append_ #[23, 23] ty #[v, x]).run Try.prog w = .ok v' w' ∧ w'.ownsRow base 3 1 v' (n + l.length) (xs ++ row nat1 l) ∧ w.grownBy w' v.ownBlock := by
  obtain ⟨i, hi, h0, h1, h2⟩ := info_parts info3i
  rcases hx with ⟨rfl, rfl⟩ | ⟨b, off, c, rfl, hb, hc⟩
  · exact ⟨v, w, run_append_owned_none (P := Try.prog) w base 23 ty 3 i 1 Try.underlying23 hi v n xs hown, by simpa [row] using hown, ⟨rfl, rfl, rfl, Nat.le_refl _, fun _ _ _ => rfl⟩⟩
  · obtain ⟨v', w', hr, q1, q2, _⟩ := run_append_own (P := Try.prog) w base 23 ty 3 i _ 1 8 Try.underlying23 hi h0 h1 h2 rfl (by decide) v n xs hown ⟨b, off, none⟩ l.length c (row nat1 l) (by rw [nat1_row_len, Nat.mul_one]) (fun j u hu => by
      rw [nat1_at] at hu
      cases hj : l[j]? with
      | none => simp [hj] at hu
      | some y =>
        simp [hj] at hu
        subst hu
        have := hc j y hj
        rwa [show (⟨b, off, none⟩ : Addr).add j = ⟨b, off + j, none⟩ by unfold Addr.add; split <;> simp_all]) (row_one nat1_one l) (by simp [maxLen]; omega) (by omega) hbase
    exact ⟨v', w', hr, q1, q2⟩

theorem step_append_src {ops : Array Oper} {o : Oper} {a : Act} {w : World} {K : Act → World → Prop} {Q : Exit → Act → World → Prop} {E : Prop} (hgd : o.guard = none) (s y : Operand)
    (ho : o.op = .call { callee := .builtin .append, args := #[s, y], argTypes := #[23, 23] })
    (base B : Nat) (v x : Value) (n : Nat) (xs : List Value) (l : List Nat) (hs : a.eval s = v) (hy : a.eval y = x) (hown : w.ownsRow base 3 1 v n xs) (hx : Src B w x l)
    (h63 : n + l.length ≤ 1000000) (hbase : base ≤ w.heap.size)
    (h : ∀ v' w', w'.ownsRow base 3 1 v' (n + l.length) (xs ++ row nat1 l) → w.grownBy w' v.ownBlock → K (a.put o.dst v') w') :
    if Region.wanted o (yielded ops a.tmps) = true then Oper.wp Try.prog o a w K Q else E := by
  have hw : Region.wanted o (yielded ops a.tmps) = true := by simp [Region.wanted, hgd]
  rw [if_pos hw]
  obtain ⟨v', w', hr, h2, h3⟩ := append_src w o.type v x n xs l hown hx h63 hbase
  unfold Oper.wp execOp
  simp only [ho, resolve, invoke, builtin, Sem.run_bind, Sem.run_pure, Result.andThen_ok, List.map_toArray, List.map_cons, List.map_nil, hs, hy, hr]
  exact h v' w' h2 h3

theorem wpList_append_src {ops : Array Oper} {rest : List Oper} {o : Oper} {a : Act} {w : World} {Q : Exit → Act → World → Prop} (hgd : o.guard = none) (s y : Operand)
    (ho : o.op = .call { callee := .builtin .append, args := #[s, y], argTypes := #[23, 23] })
    (base B : Nat) (v x : Value) (n : Nat) (xs : List Value) (l : List Nat) (hs : a.eval s = v) (hy : a.eval y = x) (hown : w.ownsRow base 3 1 v n xs) (hx : Src B w x l)
    (h63 : n + l.length ≤ 1000000) (hbase : base ≤ w.heap.size)
    (h : ∀ v' w', w'.ownsRow base 3 1 v' (n + l.length) (xs ++ row nat1 l) → w.grownBy w' v.ownBlock → wpList Try.prog ops Q rest (a.put o.dst v') w') : wpList Try.prog ops Q (o :: rest) a w := by
  refine wpList_plain hgd fun _ hK => ?_
  obtain ⟨v', w', hr, h2, h3⟩ := append_src w o.type v x n xs l hown hx h63 hbase
  unfold Oper.wp execOp
  simp only [ho, resolve, invoke, builtin, Sem.run_bind, Sem.run_pure, Result.andThen_ok, List.map_toArray, List.map_cons, List.map_nil, hs, hy, hr]
  exact hK _ _ (h v' w' h2 h3)

set_option maxHeartbeats 2000000 in
theorem turned_no {P : Nat → Prop} (v : Value) (l : List Nat) (c : Nat) (w : World) (h : Lies P w v l) (hc : c ∉ l) (hl : l.length ≤ 1000) :
    Calls Try.prog 20 #[v, .int .i64 c] w fun e w' => e = .returned (.slice none 0 0) ∧ w' = w := by
  have HH := hid h
  obtain ⟨va, vc, rfl⟩ : ∃ va vc, v = .slice va l.length vc := by
    rcases h with ⟨rfl, rfl⟩ | ⟨b, off, cap, e, _⟩
    · exact ⟨_, _, rfl⟩
    · exact ⟨_, _, e⟩
  clear h
  have HC := hid hc
  clear hc
  go_enter Try.func20, Try.ntmps20
  go_wp2
  go_loop [5] (fun iv => ∃ (i : Nat), iv = .int .i64 i ∧ i ≤ l.length) (fun i => l.length - (intOf i).toNat)
  case atStart => exact ⟨0, rfl, Nat.zero_le _⟩
  case round =>
    obtain ⟨i, rfl, hi⟩ := hrel
    by_cases hlt : i < l.length
    · have hx : l[i]? = some l[i] := List.getElem?_eq_getElem hlt
      have hne : l[i] ≠ c := fun e => HC.out (e ▸ List.getElem_mem hlt)
      generalize l[i] = x at hx hne
      rcases HH.out with ⟨_, e⟩ | ⟨b, off, cap, e, h1, h2, h3, h4, h5⟩
      · subst e; simp at hlt
      · cases e
        have hcell := h5 i x hx
        have hne' : ((x : Int) == (c : Int)) = false := by simp; omega
        have hlt' : (i : Int) < (l.length : Int) := by omega
        clear hx h5 hne
        go_wp2
        go_round
        case rel => exact ⟨i + 1, by go_num, by omega⟩
        case measure => simp [intOf]; omega
    · obtain rfl : i = l.length := by omega
      go_wp2
      go_ret
      exact ⟨rfl, rfl⟩

set_option maxHeartbeats 2000000 in
theorem turnedN {P : Nat → Prop} (v : Value) (l1 l2 : List Nat) (c : Nat) (w : World) (h : Lies P w v (l1 ++ c :: l2)) (hc : c ∉ l1) (hl : (l1 ++ c :: l2).length ≤ 1000) :
    Calls Try.prog 20 #[v, .int .i64 c] w fun e w' => ∃ v', e = .returned v' ∧ w'.ownsRow w.heap.size 3 1 v' (l2.length + 1 + l1.length) (row nat1 (c :: l2 ++ l1)) ∧ Below w.heap.size w w' := by
  rcases h with ⟨_, e⟩ | ⟨b, off, cap, rfl, h1, h2, h3, h4, h5⟩
  · simp at e
  have HC := hid hc
  have H5 := hid h5
  have hlen : (l1 ++ c :: l2).length = l1.length + (l2.length + 1) := by simp
  obtain ⟨n, hn⟩ : ∃ n, n = (l1 ++ c :: l2).length := ⟨_, rfl⟩
  rw [← hn] at h1 hl hlen ⊢
  unfold maxLen at h2
  clear hc h5 h4 hn
  go_enter Try.func20, Try.ntmps20
  go_wp2
  go_loop [5] (fun iv => ∃ (i : Nat), iv = .int .i64 i ∧ i ≤ l1.length) (fun i => n - (intOf i).toNat)
  case atStart => exact ⟨0, rfl, Nat.zero_le _⟩
  case round =>
    obtain ⟨i, rfl, hi⟩ := hrel
    have hlt' : (i : Int) < (n : Int) := by omega
    by_cases hlt : i < l1.length
    · have hx : (l1 ++ c :: l2)[i]? = some l1[i] := by rw [List.getElem?_append_left hlt]; exact List.getElem?_eq_getElem hlt
      have hne : l1[i] ≠ c := fun e => HC.out (e ▸ List.getElem_mem hlt)
      generalize l1[i] = x at hx hne
      have hcell := H5.out i x hx
      have hne' : ((x : Int) == (c : Int)) = false := by simp; omega
      clear hx hne
      go_wp2
      go_round
      case rel => exact ⟨i + 1, by go_num, by omega⟩
      case measure => simp [intOf]; omega
    · obtain rfl : i = l1.length := by omega
      have hcell := H5.out l1.length c (by simp)
      have S1 : Hid (Src w.heap.size w (.slice (some ⟨b, off + l1.length, none⟩) (n - l1.length) (cap - l1.length)) (c :: l2)) :=
        Or.inr ⟨b, off + l1.length, cap - l1.length, by rw [hlen, Nat.add_sub_cancel_left]; rfl, h3, fun j y hy => by
          have := H5.out (l1.length + j) y (by rw [List.getElem?_append_right (by omega), Nat.add_sub_cancel_left]; exact hy)
          rwa [← Nat.add_assoc] at this⟩
      have S2 : Hid (Src w.heap.size w (.slice (some ⟨b, off, none⟩) l1.length cap) l1) :=
        Or.inr ⟨b, off, _, rfl, h3, fun j y hy => H5.out j y (by rw [List.getElem?_append_left (List.getElem?_eq_some_iff.1 hy).1]; exact hy)⟩
      obtain ⟨i, hi'⟩ : ∃ i, i = l1.length := ⟨_, rfl⟩
      have HI := hid hi'
      rw [← hi'] at hlen hcell S1 S2 hlt' hlt hi ⊢
      have b0 : (0 : Int) ≤ (i : Int) := by omega
      have b1 : (i : Int) ≤ (n : Int) := by omega
      have b2 : (n : Int) ≤ (cap : Int) := by omega
      have b2' : (i : Int) ≤ (cap : Int) := by omega
      have b3 : ¬ cap = i := by omega
      have b4 : ¬ cap - i = 0 := by omega
      have HL := hid hlen
      clear hlt hi' hlen hi
      go_wp2_with fail
      go_region_held3 (fun _ => True) (trivial)
        (first
          | (refine step_append_src rfl (.tmp 18) (.tmp 21) rfl w.heap.size w.heap.size _ _ 0 [] (c :: l2) rfl rfl (by exact World.ownsRow_lit (base := w.heap.size) (e := 3) (size := 1) _ #[] 0 (Nat.le_refl _) (by simp [maxLen]) rfl) (by exact S1.out.kept (((Kept.refl (fun _ => False) w).drewN _).alloc _).plain0) (by have := HL.out; simp; omega) (by simp) ?_; intro v1 w1 o1 g1; have K1 := hid ((((Kept.refl (fun _ => False) w).drewN _).alloc _).grown g1 (fun k hk => Or.inr (by cases hk; simp))); have O1 := hid o1; clear o1 g1)
          | (refine step_append_src rfl (.tmp 22) (.tmp 25) rfl w.heap.size w.heap.size v1 _ (0 + (c :: l2).length) ([] ++ row nat1 (c :: l2)) l1 rfl rfl (by exact O1.out) (by exact S2.out.kept K1.out.plain0) (by have := HL.out; have := HI.out; simp; omega) (by exact K1.out.size) ?_; intro v2 w2 o2 g2; have K2 := hid (K1.out.grown g2 (fun k hk => Or.inr (O1.out.lt k hk).1)); have O2 := hid o2; clear o2 g2))
      go_wp2
      go_ret
      refine ⟨v2, rfl, ?_, K2.out.plain0⟩
      have := O2.out
      rw [show row nat1 (c :: (l2 ++ l1)) = row nat1 (c :: l2) ++ row nat1 l1 from row_append (c :: l2) l1]
      simpa using this
end Go.Proofs.Yticpldlckdckdaa
