/- Lists appended to a row of the call's own; the walks of the library's Grow and Concat. -/
import Derived.Test.YtmfnbgljioecpaaVl
import Derived.Deep.Onto
import Derived.Lib.AppendZeros
import Derived.Lib.AppendZerosOnto
namespace Go.Proofs.Ytmfnbgljioecpaa
open Go.ChangeShapes Go.WideShapes Go.ChangeAt Go.RowKit

def int1 (x : Int) : List Value := [.int .i64 x]
theorem int1_len : ∀ x, (int1 x).length = 1 := fun _ => rfl
theorem int1_one : ∀ x, ∀ v ∈ int1 x, v.oneCell' = true := fun x v h => by simp [int1] at h; subst h; rfl
theorem int1_at : ∀ (l : List Int) (j : Nat), (row int1 l)[j]? = (l[j]?).map fun x => .int .i64 x
  | [], j => by simp [row]
  | x :: r, 0 => by simp [row, int1]
  | x :: r, j + 1 => by simp [row, int1]; simpa using int1_at r j
theorem int1_row_len (l : List Int) : (row int1 l).length = l.length := by rw [row_length int1_len, Nat.mul_one]

/-- a list that the call owns -/
def Own (w : World) (B : Nat) (v : Value) (l : List Int) : Prop := w.ownsRow B 3 1 v l.length (row int1 l)

theorem Own.lst {w : World} {B : Nat} {v : Value} {l : List Int} (h : Own w B v l) : Lst w v l := by
  rcases h.2 with ⟨rfl, h0⟩ | ⟨g, cap, cur, rfl, hb, hg, h1, h2, h3, h4⟩
  · have := List.eq_nil_of_length_eq_zero h0
    subst this
    exact Lst.nil w
  · refine ⟨some ⟨g, 0, none⟩, cap, rfl, h1, h2, (fun e => by cases e), Or.inr ⟨g, 0, rfl, lt_of_block hg, fun i x hx => ?_⟩⟩
    have hi : i < l.length := (List.getElem?_eq_some_iff.1 hx).1
    have := World.ownsRow.cellAt h (g := g) (cap := cap) i (by omega)
    rw [int1_at, hx] at this
    simpa using this
theorem Own.base {w : World} {B B' : Nat} {v : Value} {l : List Int} (h : Own w B v l) (hb : B' ≤ B) : Own w B' v l := by
  refine ⟨h.1, ?_⟩
  rcases h.2 with h' | ⟨g, cap, cur, rfl, hb', r⟩
  · exact Or.inl h'
  · exact Or.inr ⟨g, cap, cur, rfl, Nat.le_trans hb hb', r⟩
theorem Own.nil (w : World) (B : Nat) : Own w B (.slice none 0 0) [] := World.ownsRow_nil w B 3 1
theorem below_grown {w w' : World} {v : Value} {n : Nat} {xs : List Value} {w0 : World} (h : w.ownsRow w0.heap.size 3 1 v n xs) (g : w.grownBy w' v.ownBlock) (k : Below w0.heap.size w0 w) : Below w0.heap.size w0 w' :=
  k.grown g k.size fun j hj => (h.lt j hj).1

theorem append_lst {base : Nat} (w : World) (ty : TypeId) (v x : Value) (n : Nat) (xs : List Value) (l : List Int) (hown : w.ownsRow base 3 1 v n xs) (hx : Lst w x l) (h63 : n + l.length ≤ 1000000) (hbase : base ≤ w.heap.size) :
    ∃ v' w', (Builtin.append_ #[22, 22] ty #[v, x]).run Try.prog w = .ok v' w' ∧ w'.ownsRow base 3 1 v' (n + l.length) (xs ++ row int1 l) ∧ w.grownBy w' v.ownBlock := by
  obtain ⟨i, hi, h0, h1, h2⟩ := info_parts info3i
  obtain ⟨a, c, rfl, q1, q2, q3, q4⟩ := hx
  cases a with
  | none =>
    have hc := q3 rfl
    subst hc
    have hl : l = [] := List.eq_nil_of_length_eq_zero (by omega)
    subst hl
    exact ⟨v, w, run_append_owned_none (P := Try.prog) w base 22 ty 3 i 1 Try.underlying22 hi v n xs hown, by simpa [row] using hown, ⟨rfl, rfl, rfl, Nat.le_refl _, fun _ _ _ => rfl⟩⟩
  | some ad =>
    obtain ⟨v', w', hr, p1, p2, _⟩ := run_append_own (P := Try.prog) w base 22 ty 3 i _ 1 8 Try.underlying22 hi h0 h1 h2 rfl (by decide) v n xs hown ad l.length c (row int1 l) (by rw [int1_row_len, Nat.mul_one]) (fun j u hu => by
      rw [int1_at] at hu
      cases hj : l[j]? with
      | none => simp [hj] at hu
      | some y =>
        simp [hj] at hu
        subst hu
        rcases q4 with rfl | ⟨b, off, e, hb, hc⟩
        · simp at hj
        · cases e
          have := hc j y hj
          rwa [show (⟨b, off, none⟩ : Addr).add j = ⟨b, off + j, none⟩ by unfold Addr.add; split <;> simp_all]) (row_one int1_one l) (by simp [maxLen]; omega) (by omega) hbase
    exact ⟨v', w', hr, p1, p2⟩

theorem wpList_append_lst {ops : Array Oper} {rest : List Oper} {o : Oper} {a : Act} {w : World} {Q : Exit → Act → World → Prop} (hgd : o.guard = none) (s y : Operand)
    (ho : o.op = .call { callee := .builtin .append, args := #[s, y], argTypes := #[22, 22] })
    (base : Nat) (v x : Value) (n : Nat) (xs : List Value) (l : List Int) (hs : a.eval s = v) (hy : a.eval y = x) (hown : w.ownsRow base 3 1 v n xs) (hx : Lst w x l)
    (h63 : n + l.length ≤ 1000000) (hbase : base ≤ w.heap.size)
    (h : ∀ v' w', w'.ownsRow base 3 1 v' (n + l.length) (xs ++ row int1 l) → w.grownBy w' v.ownBlock → wpList Try.prog ops Q rest (a.put o.dst v') w') : wpList Try.prog ops Q (o :: rest) a w := by
  refine wpList_plain hgd fun _ hK => ?_
  obtain ⟨v', w', hr, h2, h3⟩ := append_lst w o.type v x n xs l hown hx h63 hbase
  unfold Oper.wp execOp
  simp only [ho, resolve, invoke, builtin, Sem.run_bind, Sem.run_pure, Result.andThen_ok, List.map_toArray, List.map_cons, List.map_nil, hs, hy, hr]
  exact hK _ _ (h v' w' h2 h3)
theorem step_append_lst {ops : Array Oper} {o : Oper} {a : Act} {w : World} {K : Act → World → Prop} {Q : Exit → Act → World → Prop} {E : Prop} (hgd : o.guard = none) (s y : Operand)
    (ho : o.op = .call { callee := .builtin .append, args := #[s, y], argTypes := #[22, 22] })
    (base : Nat) (v x : Value) (n : Nat) (xs : List Value) (l : List Int) (hs : a.eval s = v) (hy : a.eval y = x) (hown : w.ownsRow base 3 1 v n xs) (hx : Lst w x l)
    (h63 : n + l.length ≤ 1000000) (hbase : base ≤ w.heap.size)
    (h : ∀ v' w', w'.ownsRow base 3 1 v' (n + l.length) (xs ++ row int1 l) → w.grownBy w' v.ownBlock → K (a.put o.dst v') w') :
    if Region.wanted o (yielded ops a.tmps) = true then Oper.wp Try.prog o a w K Q else E := by
  have hw : Region.wanted o (yielded ops a.tmps) = true := by simp [Region.wanted, hgd]
  rw [if_pos hw]
  obtain ⟨v', w', hr, h2, h3⟩ := append_lst w o.type v x n xs l hown hx h63 hbase
  unfold Oper.wp execOp
  simp only [ho, resolve, invoke, builtin, Sem.run_bind, Sem.run_pure, Result.andThen_ok, List.map_toArray, List.map_cons, List.map_nil, hs, hy, hr]
  exact h v' w' h2 h3

set_option maxHeartbeats 1000000 in
theorem grow_any (n : Nat) (hn : n ≤ 1000000) (w : World) : Calls Try.prog 25 #[.slice none 0 0, .int .i64 (n : Int)] w fun e w' => ∃ v, e = .returned v ∧ Own w' w.heap.size v [] ∧ Below w.heap.size w w' := by
  obtain ⟨i, hi, hz, hs, hb⟩ := info_parts info3i
  by_cases h0 : n = 0
  · subst h0
    go_enter Try.func25, Try.ntmps25
    go_wp2
    go_ret
    exact ⟨_, rfl, Own.nil _ _, Below.refl _ _⟩
  · have hp : 0 < n := by omega
    have hp' : 0 < (n : Int) := by omega
    have hr := fun w' : World => hid (Lib.run_append_nil_zeros (P := Try.prog) w' 22 3 22 3 i (.int .i64 0) .i64 .i64 Try.underlying22 Try.underlying3 hi hz n hp (by omega) (by omega) (by rw [hb]; omega))
    clear hi hz hs hb
    go_enter Try.func25, Try.ntmps25
    go_wp2_with (at_builtin; refine Lib.wpList_append_run _ rfl (.tmp 20) (.tmp 21) 22 3 rfl _ _ rfl rfl _ _ (hr _).out ?_)
    go_ret
    refine ⟨_, rfl, ?_, (below_box _ 1)⟩
    have hge := grownCap_ge w n 0 3
    have hcm : grownCap w n 0 3 ≤ maxLen := grownCap_le_maxLen w n 0 3 (by simp only [maxLen]; omega)
    exact World.ownsRow_made (base := w.heap.size) (e := 3) (size := 1) w (Builtin.zeroCells #[Value.int IntKind.i64 0] n ++ Builtin.zeroCells #[Value.int IntKind.i64 0] (grownCap w n 0 3 - n)) (grownCap w n 0 3) (Nat.le_refl _) hcm (by
      simp only [Array.size_append, size_zeroCells]; simp; omega)

set_option maxHeartbeats 2000000 in
theorem concat_any (ga : Nat) (vs : List Value) (ls : List (List Int)) (w : World) (hga : ga < w.heap.size) (hlen : vs.length = ls.length)
    (hv : ∀ (i : Nat) (v : Value) (l : List Int), vs[i]? = some v → ls[i]? = some l → w.cell? ⟨ga, i, none⟩ = some v ∧ Lst w v l) (hl : ls.flatten.length ≤ 1000) (hn : ls.length ≤ 10) :
    Calls Try.prog 19 #[.slice (some ⟨ga, 0, none⟩) ls.length ls.length] w fun e w' => ∃ v, e = .returned v ∧ Own w' w.heap.size v ls.flatten ∧ Below w.heap.size w w' := by
  have HV := hid hv
  have HL := hid hlen
  have HF := hid hl
  clear hv hlen hl
  go_enter Try.func19, Try.ntmps19
  go_wp2
  go_loopw [3, 11] (fun sv iv wr => ∃ (j : Nat), iv = .int .i64 (j : Int) ∧ sv = .int .i64 (((ls.take j).flatten.length : Nat) : Int) ∧ j ≤ ls.length ∧ w = wr) (fun _ i _ => ls.length - (intOf i).toNat)
  case atStart => exact ⟨0, rfl, by simp, Nat.zero_le _, rfl⟩
  case round =>
    obtain ⟨j, rfl, rfl, hj, rfl⟩ := hrel
    by_cases hlt : j < ls.length
    · have hx : ls[j]? = some ls[j] := List.getElem?_eq_getElem hlt
      have hy : vs[j]? = some (vs[j]'(by rw [HL.out]; exact hlt)) := List.getElem?_eq_getElem (by rw [HL.out]; exact hlt)
      generalize ls[j] = x at hx
      generalize vs[j]'(by rw [HL.out]; exact hlt) = y at hy
      obtain ⟨c1, a, c, rfl, _⟩ := HV.out j y x hy hx
      have hlt' : (j : Int) < (ls.length : Int) := by omega
      have T := hid (show (ls.take (j + 1)).flatten.length = (ls.take j).flatten.length + x.length by rw [List.take_add_one, hx]; simp)
      have hb : (ls.take (j + 1)).flatten.length ≤ 1000 := by
        have h1 := HF.out
        rw [← List.take_append_drop (j + 1) ls] at h1
        rw [List.flatten_append, List.length_append] at h1
        omega
      rw [T.out] at hb
      obtain ⟨s, hs⟩ : ∃ s, s = (ls.take j).flatten.length := ⟨_, rfl⟩
      rw [← hs] at hb ⊢
      have HS := hid hs
      clear hs hx hy
      go_wp2
      go_roundw
      case rel => exact ⟨j + 1, by go_num, by rw [T.out, ← HS.out]; simp, by omega, trivial⟩
      case measure => simp [intOf]; omega
    · obtain rfl : j = ls.length := by omega
      rw [List.take_length]
      obtain ⟨N, hN⟩ : ∃ N, N = ls.flatten.length := ⟨_, rfl⟩
      have hN1 : N ≤ 1000 := by have := HF.out; omega
      rw [← hN]
      clear hN
      go_wp2_with fail
      refine (grow_any N (by omega) w).mono ?_
      rintro e w1 ⟨v1, rfl, o1, b1⟩
      have O1 := hid o1
      have B1 := hid b1
      clear o1 b1
      go_wp2
      go_loopw [6, 27] (fun sv iv wr => ∃ (j : Nat), iv = .int .i64 (j : Int) ∧ Own wr w.heap.size sv (ls.take j).flatten ∧ j ≤ ls.length ∧ Below w.heap.size w wr) (fun _ i _ => ls.length - (intOf i).toNat)
      case atStart => exact ⟨0, rfl, by simpa using O1.out, Nat.zero_le _, B1.out⟩
      case round =>
        clear O1 B1
        obtain ⟨j, rfl, ho, hj, hb⟩ := hrel
        have HO := hid ho
        have HB := hid hb
        clear ho hb
        by_cases hlt : j < ls.length
        · have hx : ls[j]? = some ls[j] := List.getElem?_eq_getElem hlt
          have hy : vs[j]? = some (vs[j]'(by rw [HL.out]; exact hlt)) := List.getElem?_eq_getElem (by rw [HL.out]; exact hlt)
          generalize ls[j] = x at hx
          generalize vs[j]'(by rw [HL.out]; exact hlt) = y at hy
          obtain ⟨c0, hx0⟩ := HV.out j y x hy hx
          have HX := hid (hx0.below HB.out)
          have c1 := (HB.out.cell (p := ⟨ga, j, none⟩) hga).trans c0
          have hlt' : (j : Int) < (ls.length : Int) := by omega
          have T := hid (show (ls.take (j + 1)).flatten = (ls.take j).flatten ++ x by rw [List.take_add_one, hx]; simp)
          have hb : (ls.take (j + 1)).flatten.length ≤ 1000 := by
            have h1 := HF.out
            rw [← List.take_append_drop (j + 1) ls] at h1
            rw [List.flatten_append, List.length_append] at h1
            omega
          rw [T.out, List.length_append] at hb
          clear hx hy c0 hx0
          go_wp2_with (at_builtin; refine wpList_append_lst rfl _ _ rfl w.heap.size _ _ _ _ _ rfl rfl HO.out HX.out (by omega) (HB.out.size) ?_; intro v2 w2 o2 g2; have O2 := hid o2; have G2 := hid g2; clear o2 g2)
          go_roundw
          case rel => exact ⟨j + 1, by go_num, by rw [T.out]; unfold Own; rw [row_append, List.length_append]; exact O2.out, by omega, below_grown HO.out G2.out HB.out⟩
          case measure => simp [intOf]; omega
        · obtain rfl : j = ls.length := by omega
          rw [List.take_length] at HO
          go_wp2
          go_ret
          exact ⟨_, rfl, HO.out, HB.out⟩
end Go.Proofs.Ytmfnbgljioecpaa
