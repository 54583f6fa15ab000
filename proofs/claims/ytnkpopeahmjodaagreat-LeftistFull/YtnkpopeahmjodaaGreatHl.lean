/- Lists of what is held (a cell, a key, a serial) in memory; appended to a new one; without one of them. -/
import Derived.Test.YtnkpopeahmjodaaGreatAw
import Derived.Deep.Onto
import Derived.Laws.StructEq
namespace Go.Proofs.YtnkpopeahmjodaaGreat
open Go.ChangeShapes Go.WideShapes Go.ChangeAt Go.RowKit

/-- what is held: a cell, its key, its serial -/
def h3 (x : Nat × Int × Int) : List Value := [.int .i64 (x.1 : Int), .int .i64 x.2.1, .int .i64 x.2.2]
theorem h3_len : ∀ x, (h3 x).length = 3 := fun _ => rfl
theorem h3_one : ∀ x, ∀ v ∈ h3 x, v.oneCell' = true := fun x v h => by
  simp [h3] at h
  rcases h with rfl | rfl | rfl <;> rfl
theorem info65 : (Tryz.prog.info? 46).map (fun i => (i.zero, i.size, i.bytes)) = some (some (.agg #[.int .i64 0, .int .i64 0, .int .i64 0]), 3, 24) := by kernel_rfl

/-- such a list, in a block of P -/
def Lz (P : Nat → Prop) (w : World) (v : Value) (L : List (Nat × Int × Int)) : Prop :=
  (v = .slice none 0 0 ∧ L = []) ∨ ∃ b cap, v = .slice (some ⟨b, 0, none⟩) L.length cap ∧ L.length ≤ cap ∧ cap ≤ maxLen ∧ b < w.heap.size ∧ P b ∧ ∀ (j : Nat) (u : Value), (row h3 L)[j]? = some u → w.cell? ⟨b, j, none⟩ = some u
/-- what is appended -/
def Sz (B : Nat) (w : World) (x : Value) (L : List (Nat × Int × Int)) : Prop :=
  (x = .slice none 0 0 ∧ L = []) ∨ ∃ b off c, x = .slice (some ⟨b, off, none⟩) L.length c ∧ b < B ∧ ∀ (j : Nat) (u : Value), (row h3 L)[j]? = some u → w.cell? ⟨b, off + j, none⟩ = some u

section
variable {P G : Nat → Prop} {w w' : World} {v : Value} {L : List (Nat × Int × Int)}
theorem Lz.nil (P : Nat → Prop) (w : World) : Lz P w (.slice none 0 0) [] := Or.inl ⟨rfl, rfl⟩
theorem Lz.kept (h : Lz P w v L) (k : Kept G w w') (hd : ∀ b, P b → ¬ G b) : Lz P w' v L := by
  rcases h with h | ⟨b, cap, e, h1, h2, h3, h4, h5⟩
  · exact Or.inl h
  · exact Or.inr ⟨b, cap, e, h1, h2, Nat.lt_of_lt_of_le h3 k.size, h4, fun j u hu => (k.cell (p := ⟨b, _, none⟩) h3 (hd b h4)).trans (h5 j u hu)⟩
theorem Lz.mono {Q : Nat → Prop} (h : Lz P w v L) (hd : ∀ b, b < w.heap.size → P b → Q b) : Lz Q w v L := by
  rcases h with h | ⟨b, cap, e, h1, h2, h3, h4, h5⟩
  · exact Or.inl h
  · exact Or.inr ⟨b, cap, e, h1, h2, h3, hd b h3 h4, h5⟩
theorem Lz.of_own {base : Nat} (h : w.ownsRow base 46 3 v L.length (row h3 L)) (hP : ∀ b, base ≤ b → b < w.heap.size → P b) : Lz P w v L := by
  rcases h.2 with ⟨rfl, h0⟩ | ⟨g, cap, cur, rfl, hb, hg, h1, h2, h3', h4⟩
  · exact Or.inl ⟨rfl, List.eq_nil_of_length_eq_zero h0⟩
  · refine Or.inr ⟨g, cap, rfl, h1, h2, lt_of_block hg, hP g hb (lt_of_block hg), fun j u hu => ?_⟩
    have hj : j < (row h3 L).length := (List.getElem?_eq_some_iff.1 hu).1
    rw [row_length h3_len] at hj
    rw [h.cellAt (g := g) (cap := cap) j hj, hu]
theorem Sz.kept {B : Nat} (h : Sz B w v L) (k : Below B w w') : Sz B w' v L := by
  rcases h with h | ⟨b, off, c, e, h1, h2⟩
  · exact Or.inl h
  · exact Or.inr ⟨b, off, c, e, h1, fun j u hu => (k.cell (p := ⟨b, _, none⟩) h1).trans (h2 j u hu)⟩
theorem Lz.src (h : Lz P w v L) : Sz w.heap.size w v L := by
  rcases h with h | ⟨b, cap, e, h1, h2, h3, h4, h5⟩
  · exact Or.inl h
  · exact Or.inr ⟨b, 0, cap, e, h3, fun j u hu => by rw [Nat.zero_add]; exact h5 j u hu⟩
theorem Lz.form (h : Lz P w v L) : ∃ a c, v = .slice a L.length c := by
  rcases h with ⟨rfl, rfl⟩ | ⟨b, cap, e, _⟩
  · exact ⟨_, _, rfl⟩
  · exact ⟨_, _, e⟩
/-- one of them -/
theorem Lz.at (h : Lz P w v L) {i : Nat} {x : Nat × Int × Int} (hx : L[i]? = some x) : ∃ b cap, v = .slice (some ⟨b, 0, none⟩) L.length cap ∧ L.length ≤ cap ∧ b < w.heap.size ∧ P b ∧
    w.cell? ⟨b, i * 3, none⟩ = some (.int .i64 (x.1 : Int)) ∧ w.cell? ⟨b, i * 3 + 1, none⟩ = some (.int .i64 x.2.1) ∧ w.cell? ⟨b, i * 3 + 2, none⟩ = some (.int .i64 x.2.2) := by
  rcases h with ⟨rfl, rfl⟩ | ⟨b, cap, e, h1, h2, h3', h4, h5⟩
  · simp at hx
  · refine ⟨b, cap, e, h1, h3', h4, h5 (i * 3) _ ?_, h5 (i * 3 + 1) _ ?_, h5 (i * 3 + 2) _ ?_⟩
    · rw [show i * 3 = i * 3 + 0 from rfl, row_get h3_len L i 0 x hx (by decide)]; rfl
    · rw [row_get h3_len L i 1 x hx (by decide)]; rfl
    · rw [row_get h3_len L i 2 x hx (by decide)]; rfl
end
theorem Kept.plain0 {w w' : World} (h : Kept (fun _ => False) w w') : Below w.heap.size w w' := h.below (Nat.le_refl _) fun _ e => e.elim

theorem append_sz {base B : Nat} (w : World) (ty : TypeId) (v x : Value) (n : Nat) (xs : List Value) (L : List (Nat × Int × Int)) (hown : w.ownsRow base 46 3 v n xs) (hx : Sz B w x L) (h63 : n + L.length ≤ 1000000) (hbase : base ≤ w.heap.size) :
    ∃ v' w', (Builtin.append_ #[34, 34] ty #[v, x]).run Tryz.prog w = .ok v' w' ∧ w'.ownsRow base 46 3 v' (n + L.length) (xs ++ row h3 L) ∧ w.grownBy w' v.ownBlock := by
  obtain ⟨i, hi, h0, h1, h2⟩ := info_parts info65
  rcases hx with ⟨rfl, rfl⟩ | ⟨b, off, c, rfl, hb, hc⟩
  · exact ⟨v, w, run_append_owned_none (P := Tryz.prog) w base 34 ty 46 i 3 Tryz.underlying34 hi v n xs hown, by simpa [row] using hown, ⟨rfl, rfl, rfl, Nat.le_refl _, fun _ _ _ => rfl⟩⟩
  · obtain ⟨v', w', hr, q1, q2, _⟩ := run_append_own (P := Tryz.prog) w base 34 ty 46 i _ 3 24 Tryz.underlying34 hi h0 h1 h2 rfl (by decide) v n xs hown ⟨b, off, none⟩ L.length c (row h3 L) (by rw [row_length h3_len]) (fun j u hu => by
      have := hc j u hu
      rwa [show (⟨b, off, none⟩ : Addr).add j = ⟨b, off + j, none⟩ by unfold Addr.add; split <;> simp_all]) (row_one h3_one L) (by simp [maxLen]; omega) (by omega) hbase
    exact ⟨v', w', hr, q1, q2⟩

theorem step_append_sz {ops : Array Oper} {o : Oper} {a : Act} {w : World} {K : Act → World → Prop} {Q : Exit → Act → World → Prop} {E : Prop} (hgd : o.guard = none) (s y : Operand)
    (ho : o.op = .call { callee := .builtin .append, args := #[s, y], argTypes := #[34, 34] })
    (base B : Nat) (v x : Value) (n : Nat) (xs : List Value) (L : List (Nat × Int × Int)) (hs : a.eval s = v) (hy : a.eval y = x) (hown : w.ownsRow base 46 3 v n xs) (hx : Sz B w x L)
    (h63 : n + L.length ≤ 1000000) (hbase : base ≤ w.heap.size)
    (h : ∀ v' w', w'.ownsRow base 46 3 v' (n + L.length) (xs ++ row h3 L) → w.grownBy w' v.ownBlock → K (a.put o.dst v') w') :
    if Region.wanted o (yielded ops a.tmps) = true then Oper.wp Tryz.prog o a w K Q else E := by
  have hw : Region.wanted o (yielded ops a.tmps) = true := by simp [Region.wanted, hgd]
  rw [if_pos hw]
  obtain ⟨v', w', hr, h2, h3⟩ := append_sz w o.type v x n xs L hown hx h63 hbase
  unfold Oper.wp execOp
  simp only [ho, resolve, invoke, builtin, Sem.run_bind, Sem.run_pure, Result.andThen_ok, List.map_toArray, List.map_cons, List.map_nil, hs, hy, hr]
  exact h v' w' h2 h3

theorem wpList_append_sz {ops : Array Oper} {rest : List Oper} {o : Oper} {a : Act} {w : World} {Q : Exit → Act → World → Prop} (hgd : o.guard = none) (s y : Operand)
    (ho : o.op = .call { callee := .builtin .append, args := #[s, y], argTypes := #[34, 34] })
    (base B : Nat) (v x : Value) (n : Nat) (xs : List Value) (L : List (Nat × Int × Int)) (hs : a.eval s = v) (hy : a.eval y = x) (hown : w.ownsRow base 46 3 v n xs) (hx : Sz B w x L)
    (h63 : n + L.length ≤ 1000000) (hbase : base ≤ w.heap.size)
    (h : ∀ v' w', w'.ownsRow base 46 3 v' (n + L.length) (xs ++ row h3 L) → w.grownBy w' v.ownBlock → wpList Tryz.prog ops Q rest (a.put o.dst v') w') : wpList Tryz.prog ops Q (o :: rest) a w := by
  refine wpList_plain hgd fun _ hK => ?_
  obtain ⟨v', w', hr, h2, h3⟩ := append_sz w o.type v x n xs L hown hx h63 hbase
  unfold Oper.wp execOp
  simp only [ho, resolve, invoke, builtin, Sem.run_bind, Sem.run_pure, Result.andThen_ok, List.map_toArray, List.map_cons, List.map_nil, hs, hy, hr]
  exact hK _ _ (h v' w' h2 h3)

set_option maxHeartbeats 2000000 in
/-- without one -/
theorem withoutN {P : Nat → Prop} (v : Value) (l1 l2 : List (Nat × Int × Int)) (x : Nat × Int × Int) (w : World) (h : Lz P w v (l1 ++ x :: l2)) (hl : (l1 ++ x :: l2).length ≤ 1000) :
    Calls Tryz.prog 36 #[v, .int .i64 (l1.length : Int)] w fun e w' => ∃ v', e = .returned v' ∧ w'.ownsRow w.heap.size 46 3 v' (l1.length + l2.length) (row h3 (l1 ++ l2)) ∧ Kept (fun _ => False) w w' := by
  rcases h with ⟨_, e⟩ | ⟨b, cap, rfl, h1, h2, h3', h4, h5⟩
  · simp at e
  have H5 := hid h5
  have hlen : (l1 ++ x :: l2).length = l1.length + (l2.length + 1) := by simp
  obtain ⟨n, hn⟩ : ∃ n, n = (l1 ++ x :: l2).length := ⟨_, rfl⟩
  rw [← hn] at h1 hl hlen ⊢
  unfold maxLen at h2
  clear h5 h4 hn
  have er : row h3 (l1 ++ x :: l2) = row h3 l1 ++ (h3 x ++ row h3 l2) := by rw [row_append]; rfl
  have el : (row h3 l1).length = l1.length * 3 := row_length h3_len l1
  have S1 : Hid (Sz w.heap.size w (.slice (some ⟨b, 0, none⟩) l1.length cap) l1) :=
    Or.inr ⟨b, 0, _, rfl, h3', fun j u hu => by
      have hj : j < (row h3 l1).length := (List.getElem?_eq_some_iff.1 hu).1
      rw [Nat.zero_add]
      exact H5.out j u (by rw [er, List.getElem?_append_left hj]; exact hu)⟩
  obtain ⟨i, hi⟩ : ∃ i, i = l1.length := ⟨_, rfl⟩
  have S2 : Hid (∀ j u, (row h3 l2)[j]? = some u → w.cell? ⟨b, (i + 1) * 3 + j, none⟩ = some u) := fun j u hu => by
    refine H5.out ((i + 1) * 3 + j) u ?_
    rw [er, List.getElem?_append_right (by rw [el]; omega), el, List.getElem?_append_right (by rw [h3_len]; omega), h3_len, ← hu]
    congr 1
    omega
  have HI := hid hi
  have HL := hid hlen
  rw [← hi] at hlen S1 ⊢
  have b0 : (0 : Int) ≤ (i : Int) := by omega
  have b1 : (i : Int) + 1 ≤ (n : Int) := by omega
  have b2 : (n : Int) ≤ (cap : Int) := by omega
  have b2' : (i : Int) ≤ (cap : Int) := by omega
  clear hi hlen er el H5
  obtain ⟨k, hk⟩ : ∃ k : Nat, (i : Int) + 1 = (k : Int) := ⟨i + 1, by omega⟩
  have HK := hid hk
  have c0 : (0 : Int) ≤ (k : Int) := by omega
  have c1 : (k : Int) ≤ (n : Int) := by omega
  have c2 : (k : Int) ≤ (cap : Int) := by omega
  clear b1
  have ek : i + 1 = k := by omega
  have HE := hid ek
  rw [ek] at S2
  have hnk := HL.out
  have hii := HI.out
  have e2 : n - k = l2.length := by omega
  have HN := hid e2
  have hwr : IntKind.i64.wrap (k : Int) = (k : Int) := IntWalk.i64_in _ (by omega)
  clear ek e2 hnk hii
  by_cases hc : cap = k
  · subst hc
    obtain rfl : n = cap := by omega
    have hz : n - n = 0 := Nat.sub_self n
    have S3 : Hid (Sz w.heap.size w (.slice (some ⟨b, 0, none⟩) 0 0) l2) := by
      have : l2 = [] := List.eq_nil_of_length_eq_zero (by have := HN.out; omega)
      subst this
      exact Or.inr ⟨b, 0, 0, rfl, h3', fun j u hu => by simp [row] at hu⟩
    clear S2
    go_enter Tryz.func36, Tryz.ntmps36
    go_wp2_with fail
    go_region_held3 (fun _ => True) (trivial)
      (first
        | (refine step_append_sz rfl (.tmp 5) (.tmp 8) rfl w.heap.size w.heap.size _ _ 0 [] l1 rfl rfl (by exact World.ownsRow_lit (base := w.heap.size) (e := 46) (size := 3) _ #[] 0 (Nat.le_refl _) (by simp [maxLen]) rfl) (by exact S1.out.kept (((Kept.refl (fun _ => False) w).drewN _).alloc _).plain0) (by have := HL.out; omega) (by simp) ?_; intro v1 w1 o1 g1; have K1 := hid ((((Kept.refl (fun _ => False) w).drewN _).alloc _).grown g1 (fun k hk => Or.inr (by cases hk; simp))); have O1 := hid o1; clear o1 g1)
        | (refine step_append_sz rfl (.tmp 9) (.tmp 13) rfl w.heap.size w.heap.size v1 _ (0 + l1.length) ([] ++ row h3 l1) l2 rfl rfl (by exact O1.out) (by exact S3.out.kept K1.out.plain0) (by have := HL.out; omega) (by exact K1.out.size) ?_; intro v2 w2 o2 g2; have K2 := hid (K1.out.grown g2 (fun k hk => Or.inr (O1.out.lt k hk).1)); have O2 := hid o2; clear o2 g2))
    go_wp2
    go_ret
    refine ⟨v2, rfl, ?_, K2.out⟩
    have := O2.out
    rw [row_append, HI.out]
    simpa using this
  · have S3 : Hid (Sz w.heap.size w (.slice (some ⟨b, k * 3, none⟩) (n - k) (cap - k)) l2) := Or.inr ⟨b, k * 3, _, by rw [HN.out], h3', S2.out⟩
    have hc2 : ¬ cap - k = 0 := by omega
    clear S2
    go_enter Tryz.func36, Tryz.ntmps36
    go_wp2_with fail
    go_region_held3 (fun _ => True) (trivial)
      (first
        | (refine step_append_sz rfl (.tmp 5) (.tmp 8) rfl w.heap.size w.heap.size _ _ 0 [] l1 rfl rfl (by exact World.ownsRow_lit (base := w.heap.size) (e := 46) (size := 3) _ #[] 0 (Nat.le_refl _) (by simp [maxLen]) rfl) (by exact S1.out.kept (((Kept.refl (fun _ => False) w).drewN _).alloc _).plain0) (by have := HL.out; omega) (by simp) ?_; intro v1 w1 o1 g1; have K1 := hid ((((Kept.refl (fun _ => False) w).drewN _).alloc _).grown g1 (fun k hk => Or.inr (by cases hk; simp))); have O1 := hid o1; clear o1 g1)
        | (refine step_append_sz rfl (.tmp 9) (.tmp 13) rfl w.heap.size w.heap.size v1 _ (0 + l1.length) ([] ++ row h3 l1) l2 rfl rfl (by exact O1.out) (by exact S3.out.kept K1.out.plain0) (by have := HL.out; omega) (by exact K1.out.size) ?_; intro v2 w2 o2 g2; have K2 := hid (K1.out.grown g2 (fun k hk => Or.inr (O1.out.lt k hk).1)); have O2 := hid o2; clear o2 g2))
    go_wp2
    go_ret
    refine ⟨v2, rfl, ?_, K2.out⟩
    have := O2.out
    rw [row_append, HI.out]
    simpa using this
end Go.Proofs.YtnkpopeahmjodaaGreat
